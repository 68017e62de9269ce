/- The measure of values: a list of two, a quotation of one; Check. Check of what is not sound. A measure of an item; of all values and items; measured, Check, CheckItems. measured, Check, CheckItems, Size: of any value. When two values that hold no others are equal. Equal values: the plain function; slices.EqualFunc. Equal values: same, sameItem; Equal. -/
import Derived.Test.YtbhpjakjlfkfiaaGreatDoorGaf
import Derived.Laws.StructEq
namespace Go.Proofs.YtbhpjakjlfkfiaaGreatDoor
open Go.RowKit Go.Lib
set_option linter.unusedSimpArgs false
set_option linter.unusedVariables false
/-- an item that is not sound: Push of what is no value, or neither Push nor Call -/
def BadI (v : Value) : Prop :=
  (∃ u, v = .iface 125 (.agg #[u]) ∧ BadV u) ∨ ((∀ W : World, (Instr.typeAssert v 112 125 true).run Tryz.prog W = .ok (.tuple #[.agg #[.nilIface], .bool false]) W) ∧ (∀ W : World, (Instr.typeAssert v 112 147 true).run Tryz.prog W = .ok (.tuple #[.agg #[.string ByteArray.empty], .bool false]) W))
set_option maxRecDepth 100000 in
theorem vitem_bad (v : Value) (hv : BadI v) (M : Nat) (k d o : Int) (w : World) (h : VmB w M k d) (h1 : 0 ≤ k) (h2 : k < 900) : Calls Tryz.prog 147 #[.pointer (some ⟨M, 0, none⟩), v, .int .i64 o] w fun e w' => e = .returned (.bool false) ∧ Only (fun b => b = M) w w' := by
  rcases hv with ⟨v, rfl, hv⟩ | ⟨hp, hc⟩
  · have hP := va_hit 125 112 _ Tryz.underlying125 (by intro m h; cases h)
    have HV : Hid (∀ w1, Only (fun _ => False) w w1 → Calls Tryz.prog 120 #[.pointer (some ⟨M, 0, none⟩), v, .int .i64 o] w1 fun e w' => e = .returned (.bool false) ∧ Only (fun b => b = M) w1 w') := fun w1 o1 => vval_bad v hv M k d o w1 ((o1.block M (Array.getElem?_eq_some_iff.mp h).1 (fun g => g)).trans h) h1 (by omega)
    have O0 : Hid (Only (fun _ => False) w w) := Only.refl _ _
    have hk := hv.k
    clear h hv
    rcases hk with rfl | ⟨T, x, rfl⟩
    all_goals
     go_enter Tryz.func147, Tryz.ntmps147
     go_wp2_with fail
     refine (show Calls Tryz.prog 120 _ _ _ from HV.out _ (O0.out.alloc _)).mono ?_
     rintro e w1 ⟨rfl, o1⟩
     have O1 : Hid (Only (fun b => b = M) w w1) := ((Only.refl (fun b => b = M) w).alloc _).trans o1 (fun _ _ g => g)
     clear HV o1
     go_wp2
     go_ret
     exact ⟨rfl, O1.out⟩
  · have O0 : Hid (Only (fun b => b = M) w w) := Only.refl _ _
    clear h
    go_enter Tryz.func147, Tryz.ntmps147
    go_wp2
    all_goals
      go_ret
      refine ⟨rfl, ?_⟩
      repeat (first | exact O0.out | refine Only.alloc ?_ _)
set_option maxRecDepth 100000 in
theorem ievery_bad (v : Value) (hv : BadI v) (M g : Nat) (k d : Int) (w : World) (h : VmB w M k d) (h1 : 0 ≤ k) (h2 : k < 900) (hg0 : w.cell? ⟨g, 0, none⟩ = some v) : Calls Tryz.prog 146 #[.slice (some ⟨g, 0, none⟩) 1 1, .func (.func 147) #[.pointer (some ⟨M, 0, none⟩)] #[], .int .i64 1] w fun e w' => e = .returned (.bool false) ∧ Only (fun b => b = M) w w' := by
  have HV : Hid (Calls Tryz.prog 147 #[.pointer (some ⟨M, 0, none⟩), v, .int .i64 1] w fun e w' => e = .returned (.bool false) ∧ Only (fun b => b = M) w w') := vitem_bad v hv M k d 1 w h h1 h2
  clear h hv
  go_enter Tryz.func146, Tryz.ntmps146
  go_wp2
  go_loopw [11] (fun r wr => r = .int .i64 0 ∧ Hid (wr = w)) (fun r _ => 0)
  case atStart => exact ⟨rfl, rfl⟩
  case round =>
    obtain ⟨rfl, HW⟩ := hrel
    obtain rfl := HW.out
    go_wp2_with fail
    refine (show Calls Tryz.prog 147 _ _ _ from HV.out).mono ?_
    rintro e w2 ⟨rfl, o2⟩
    have O2 : Hid (Only (fun b => b = M) wr w2) := o2
    clear o2 HV hg0 HW
    go_wp2
    go_ret
    exact ⟨rfl, O2.out⟩
/-- a value that is not sound: no value; a list of 1 and of no value; a quotation of one bad item -/
def BadW (w : World) (x : Value) : Prop :=
  BadV x ∨ (∃ g v, x = .iface 81 (.agg #[.slice (some ⟨g, 0, none⟩) 2 2]) ∧ BadV v ∧ w.cell? ⟨g, 0, none⟩ = some i1v ∧ w.cell? ⟨g, 1, none⟩ = some v) ∨ (∃ g v, x = .iface 85 (.agg #[.slice (some ⟨g, 0, none⟩) 1 1]) ∧ BadI v ∧ w.cell? ⟨g, 0, none⟩ = some v)
theorem BadW.one {w : World} (v : Value) (h : BadV v) : BadW w v := .inl h
theorem BadW.list {w : World} (g : Nat) (v : Value) (h : BadV v) (hg0 : w.cell? ⟨g, 0, none⟩ = some i1v) (hg1 : w.cell? ⟨g, 1, none⟩ = some v) : BadW w (.iface 81 (.agg #[.slice (some ⟨g, 0, none⟩) 2 2])) := .inr (.inl ⟨g, v, rfl, h, hg0, hg1⟩)
theorem BadW.quot {w : World} (g : Nat) (v : Value) (h : BadI v) (hg0 : w.cell? ⟨g, 0, none⟩ = some v) : BadW w (.iface 85 (.agg #[.slice (some ⟨g, 0, none⟩) 1 1])) := .inr (.inr ⟨g, v, rfl, h, hg0⟩)
theorem BadI.push (v : Value) (h : BadV v) : BadI (.iface 125 (.agg #[v])) := .inl ⟨v, rfl, h⟩
set_option maxRecDepth 100000 in
theorem vval_list (M g : Nat) (v : Value) (hv : BadV v) (w : World) (h : VmB w M 0 0) (hgM : g ≠ M) (hg0 : w.cell? ⟨g, 0, none⟩ = some i1v) (hg1 : w.cell? ⟨g, 1, none⟩ = some v) : Calls Tryz.prog 120 #[.pointer (some ⟨M, 0, none⟩), .iface 81 (.agg #[.slice (some ⟨g, 0, none⟩) 2 2]), .int .i64 0] w fun e w' => e = .returned (.bool false) ∧ Only (fun b => b = M) w w' := by
  have HC : Hid (Calls Tryz.prog 143 #[.pointer (some ⟨M, 0, none⟩)] w fun e w' => e = .returned (.bool true) ∧ Only (fun b => b = M) w w' ∧ VmB w' M (0 + 1) 0) := vcount_any M 0 0 w h (by omega) (by omega)
  have HE : Hid (∀ w1 k d, VmB w1 M k d → 0 ≤ d → d ≤ 32 → Calls Tryz.prog 144 #[.pointer (some ⟨M, 0, none⟩), .int .i64 1] w1 fun e w' => e = .returned (.bool true) ∧ Only (fun b => b = M) w1 w' ∧ ∃ d', VmB w' M k d' ∧ 0 ≤ d' ∧ d' ≤ 32) := fun w1 k d => venter_any M k d w1
  have HV : Hid (∀ w1 k d, VmB w1 M k d → 0 ≤ k → k < 900 → w1.cell? ⟨g, 0, none⟩ = some i1v → w1.cell? ⟨g, 1, none⟩ = some v → Calls Tryz.prog 145 #[.slice (some ⟨g, 0, none⟩) 2 2, .func (.func 120) #[.pointer (some ⟨M, 0, none⟩)] #[], .int .i64 1] w1 fun e w' => e = .returned (.bool false) ∧ Only (fun b => b = M) w1 w') := fun w1 k d a1 a2 a3 a4 a5 => vevery_bad v hv M g k d w1 a1 a2 a3 hgM a4 a5
  have hl := va_hit 81 51 _ Tryz.underlying81 (by intro m h; cases h)
  have G : Hid (w.cell? ⟨g, 0, none⟩ = some i1v ∧ w.cell? ⟨g, 1, none⟩ = some v) := ⟨hg0, hg1⟩
  clear h hv hg0 hg1
  go_enter Tryz.func120, Tryz.ntmps120
  go_wp2_with fail
  refine (show Calls Tryz.prog 143 _ _ _ from HC.out).mono ?_
  rintro e w1 ⟨rfl, o1, m1⟩
  have O1 : Hid (Only (fun b => b = M) w w1) := o1
  have M1 : Hid (VmB w1 M (0 + 1) 0) := m1
  clear HC o1 m1
  go_wp2_with fail
  have b1 : M < w1.heap.size := (Array.getElem?_eq_some_iff.mp M1.out).1
  have m2 : VmB (w1.alloc (.cells #[.slice (some ⟨g, 0, none⟩) 2 2] 81)) M (0 + 1) 0 := (((Only.refl (fun _ => False) w1).alloc _).block M b1 (fun h => h)).trans M1.out
  have l2 : (w1.alloc (.cells #[.slice (some ⟨g, 0, none⟩) 2 2] 81)).cell? ⟨w1.heap.size, 0, none⟩ = some (.slice (some ⟨g, 0, none⟩) 2 2) := by
    exact (wr_cell (va_at w1 (.cells #[.slice (some ⟨g, 0, none⟩) 2 2] 81) _ rfl) 0).trans rfl
  refine (show Calls Tryz.prog 144 _ _ _ from HE.out _ _ _ m2 (by omega) (by omega)).mono ?_
  rintro e w3 ⟨rfl, o3, d', m3, d1, d2⟩
  have l3 := o3.cell l2 (fun h => absurd h (Nat.ne_of_gt b1))
  have o4 : Only (fun b => b = M) w w3 := (O1.out.alloc _).trans o3 (fun _ _ g => g)
  have O4 : Hid (Only (fun b => b = M) w w3) := o4
  have G4 : Hid (w3.cell? ⟨g, 0, none⟩ = some i1v ∧ w3.cell? ⟨g, 1, none⟩ = some v) := ⟨o4.cell G.out.1 (fun h => hgM h), o4.cell G.out.2 (fun h => hgM h)⟩
  have M3 : Hid (VmB w3 M (0 + 1) d') := m3
  clear HE o3 o4 O1 M1 m2 l2 m3 d1 d2 G b1
  go_wp2_with fail
  refine (show Calls Tryz.prog 145 _ _ _ from HV.out _ _ _ M3.out (by omega) (by omega) G4.out.1 G4.out.2).mono ?_
  rintro e w5 ⟨rfl, o5⟩
  have O5 : Hid (Only (fun b => b = M) w w5) := O4.out.trans o5 (fun _ _ g => g)
  clear HV o5 O4 G4 M3 l3
  go_wp2
  go_ret
  exact ⟨rfl, O5.out⟩
set_option maxRecDepth 100000 in
theorem vval_quot (M g : Nat) (v : Value) (hv : BadI v) (w : World) (h : VmB w M 0 0) (hgM : g ≠ M) (hg0 : w.cell? ⟨g, 0, none⟩ = some v) : Calls Tryz.prog 120 #[.pointer (some ⟨M, 0, none⟩), .iface 85 (.agg #[.slice (some ⟨g, 0, none⟩) 1 1]), .int .i64 0] w fun e w' => e = .returned (.bool false) ∧ Only (fun b => b = M) w w' := by
  have HC : Hid (Calls Tryz.prog 143 #[.pointer (some ⟨M, 0, none⟩)] w fun e w' => e = .returned (.bool true) ∧ Only (fun b => b = M) w w' ∧ VmB w' M (0 + 1) 0) := vcount_any M 0 0 w h (by omega) (by omega)
  have HE : Hid (∀ w1 k d, VmB w1 M k d → 0 ≤ d → d ≤ 32 → Calls Tryz.prog 144 #[.pointer (some ⟨M, 0, none⟩), .int .i64 1] w1 fun e w' => e = .returned (.bool true) ∧ Only (fun b => b = M) w1 w' ∧ ∃ d', VmB w' M k d' ∧ 0 ≤ d' ∧ d' ≤ 32) := fun w1 k d => venter_any M k d w1
  have HV : Hid (∀ w1 k d, VmB w1 M k d → 0 ≤ k → k < 900 → w1.cell? ⟨g, 0, none⟩ = some v → Calls Tryz.prog 146 #[.slice (some ⟨g, 0, none⟩) 1 1, .func (.func 147) #[.pointer (some ⟨M, 0, none⟩)] #[], .int .i64 1] w1 fun e w' => e = .returned (.bool false) ∧ Only (fun b => b = M) w1 w') := fun w1 k d a1 a2 a3 a4 => ievery_bad v hv M g k d w1 a1 a2 a3 a4
  have hl := va_miss 85 81 51 _ Tryz.underlying81 (by intro m h; cases h) (by decide) (.agg #[.slice none 0 0]) (fun _ => rfl)
  have hq := va_hit 85 51 _ Tryz.underlying85 (by intro m h; cases h)
  have G : Hid (w.cell? ⟨g, 0, none⟩ = some v) := hg0
  clear h hv hg0
  go_enter Tryz.func120, Tryz.ntmps120
  go_wp2_with fail
  refine (show Calls Tryz.prog 143 _ _ _ from HC.out).mono ?_
  rintro e w1 ⟨rfl, o1, m1⟩
  have O1 : Hid (Only (fun b => b = M) w w1) := o1
  have M1 : Hid (VmB w1 M (0 + 1) 0) := m1
  clear HC o1 m1
  go_wp2_with fail
  have b0 : M < w1.heap.size := (Array.getElem?_eq_some_iff.mp M1.out).1
  obtain ⟨w1q, ew⟩ : ∃ w1q, w1q = w1.alloc (.cells #[.slice none 0 0] 81) := ⟨_, rfl⟩
  rw [← ew]
  have O1q : Hid (Only (fun b => b = M) w w1q) := ew ▸ O1.out.alloc _
  have M1q : Hid (VmB w1q M (0 + 1) 0) := ew ▸ (((Only.refl (fun _ => False) w1).alloc _).block M b0 (fun h => h)).trans M1.out
  have b1 : M < w1q.heap.size := (Array.getElem?_eq_some_iff.mp M1q.out).1
  have m2 : VmB (w1q.alloc (.cells #[.slice (some ⟨g, 0, none⟩) 1 1] 85)) M (0 + 1) 0 := (((Only.refl (fun _ => False) w1q).alloc _).block M b1 (fun h => h)).trans M1q.out
  have l2 : (w1q.alloc (.cells #[.slice (some ⟨g, 0, none⟩) 1 1] 85)).cell? ⟨w1q.heap.size, 0, none⟩ = some (.slice (some ⟨g, 0, none⟩) 1 1) := by
    exact (wr_cell (va_at w1q (.cells #[.slice (some ⟨g, 0, none⟩) 1 1] 85) _ rfl) 0).trans rfl
  refine (show Calls Tryz.prog 144 _ _ _ from HE.out _ _ _ m2 (by omega) (by omega)).mono ?_
  rintro e w3 ⟨rfl, o3, d', m3, d1, d2⟩
  have l3 := o3.cell l2 (fun h => absurd h (Nat.ne_of_gt b1))
  have ez : w1q.heap.size = w1.heap.size + 1 := ew ▸ Array.size_push ..
  rw [ez] at l3
  have o4 : Only (fun b => b = M) w w3 := (O1q.out.alloc _).trans o3 (fun _ _ g => g)
  have O4 : Hid (Only (fun b => b = M) w w3) := o4
  have G4 : Hid (w3.cell? ⟨g, 0, none⟩ = some v) := o4.cell G.out (fun h => hgM h)
  have M3 : Hid (VmB w3 M (0 + 1) d') := m3
  clear HE o3 o4 O1q M1q O1 M1 ez ew b0 m2 l2 m3 d1 d2 G b1
  go_wp2_with fail
  refine (show Calls Tryz.prog 146 _ _ _ from HV.out _ _ _ M3.out (by omega) (by omega) G4.out).mono ?_
  rintro e w5 ⟨rfl, o5⟩
  have O5 : Hid (Only (fun b => b = M) w w5) := O4.out.trans o5 (fun _ _ g => g)
  clear HV o5 O4 G4 M3 l3
  go_wp2
  go_ret
  exact ⟨rfl, O5.out⟩
end Go.Proofs.YtbhpjakjlfkfiaaGreatDoor
namespace Go.Proofs.YtbhpjakjlfkfiaaGreatDoor
open Go.RowKit Go.Lib
set_option linter.unusedSimpArgs false
set_option linter.unusedVariables false
theorem vval_badw (v : Value) (M : Nat) (w0 w : World) (hv : BadW w0 v) (hM : w0.heap.size ≤ M) (o : Only (fun _ => False) w0 w) (h : VmB w M 0 0) : Calls Tryz.prog 120 #[.pointer (some ⟨M, 0, none⟩), v, .int .i64 0] w fun e w' => e = .returned (.bool false) ∧ Only (fun b => b = M) w w' := by
  have lt : ∀ g x, w0.cell? ⟨g, 0, none⟩ = some x → g ≠ M := by
    intro g x hg e
    subst e
    have : w0.heap[g]? = none := Array.getElem?_eq_none hM
    simp [World.cell?, this] at hg
  rcases hv with hv | ⟨g, v, rfl, hv, hg0, hg1⟩ | ⟨g, v, rfl, hv, hg0⟩
  · exact vval_bad v hv M 0 0 0 w h (by omega) (by omega)
  · exact vval_list M g v hv w h (lt g _ hg0) (o.cell hg0 (fun h => h)) (o.cell hg1 (fun h => h))
  · exact vval_quot M g v hv w h (lt g _ hg0) (o.cell hg0 (fun h => h))
theorem results_two {fn : Func} {t u : Tmp} (h : fn.results = #[.cell u 149, .tmp t]) (tmps : Array Value) (w : World) (B : Nat) {x y : Value} (h0 : w.cell? ⟨B, 0, none⟩ = some x) (h1 : w.cell? ⟨B, 1, none⟩ = some y) (ha : tmps.getD u undef = .pointer (some ⟨B, 0, none⟩)) :
    (results fn tmps).run Tryz.prog w = .ok (.tuple #[.agg #[x, y], tmps.getD t undef]) w := by
  have ha' : tmps[u]?.getD undef = .pointer (some ⟨B, 0, none⟩) := by simpa using ha
  simp [results, h, ha', asAddr, go_sem, loadVar, isAgg, Tryz.underlying149, h0, h1]
theorem set2 {w : World} {B : Nat} {x0 y0 : Value} (h0 : w.cell? ⟨B, 0, none⟩ = some x0) (h1 : w.cell? ⟨B, 1, none⟩ = some y0) (x y : Value) :
    ((w.setCell ⟨B, 0, none⟩ x).setCell ⟨B, 1, none⟩ y).cell? ⟨B, 0, none⟩ = some x ∧ ((w.setCell ⟨B, 0, none⟩ x).setCell ⟨B, 1, none⟩ y).cell? ⟨B, 1, none⟩ = some y := by
  have ne : ∀ (W : World) (i j : Nat) (v : Value), i ≠ j → (W.setCell ⟨B, i, none⟩ v).cell? ⟨B, j, none⟩ = W.cell? ⟨B, j, none⟩ := fun W i j v g => by apply World.cell?_setCell_other; intro e; exact g (by injection e)
  refine ⟨?_, ?_⟩
  · rw [ne _ 1 0 _ (by omega)]
    exact World.cell?_setCell_same' _ _ _ (by rw [h0]; rfl)
  · exact World.cell?_setCell_same' _ _ _ (by rw [ne _ 0 1 _ (by omega), h1]; rfl)
set_option maxRecDepth 100000 in
theorem measured_bad (v : Value) (w : World) (hv : BadW w v) : Calls Tryz.prog 93 #[v] w fun e w' => e = .returned (.tuple #[.agg #[.int .i64 0, .int .i64 0], .int .i64 1]) ∧ Only (fun _ => False) w w' := by
  have HV : Hid (Calls Tryz.prog 120 #[.pointer (some ⟨w.heap.size + 1, 0, none⟩), v, .int .i64 0] ((w.alloc (.cells #[.int .i64 0, .int .i64 0] 149)).alloc (.cells #[.int .i64 0, .int .i64 0] 149)) fun e w' => e = .returned (.bool false) ∧ Only (fun b => b = w.heap.size + 1) ((w.alloc (.cells #[.int .i64 0, .int .i64 0] 149)).alloc (.cells #[.int .i64 0, .int .i64 0] 149)) w') := vval_badw v (w.heap.size + 1) w _ hv (Nat.le_succ _) (((Only.refl _ w).alloc _).alloc _) (va_at (w.alloc (.cells #[.int .i64 0, .int .i64 0] 149)) _ _ (Array.size_push ..).symm)
  have ca : ((w.alloc (.cells #[.int .i64 0, .int .i64 0] 149)).alloc (.cells #[.int .i64 0, .int .i64 0] 149)).heap[w.heap.size]? = some (.cells #[.int .i64 0, .int .i64 0] 149) := (((Only.refl (fun _ => False) (w.alloc (.cells #[.int .i64 0, .int .i64 0] 149))).alloc _).block w.heap.size (by rw [show (w.alloc (.cells #[.int .i64 0, .int .i64 0] 149)).heap.size = w.heap.size + 1 from Array.size_push ..]; omega) (fun h => h)).trans (va_at w _ _ rfl)
  have CA : Hid (((w.alloc (.cells #[.int .i64 0, .int .i64 0] 149)).alloc (.cells #[.int .i64 0, .int .i64 0] 149)).heap[w.heap.size]? = some (.cells #[.int .i64 0, .int .i64 0] 149)) := ca
  have CZ : Hid (((w.alloc (.cells #[.int .i64 0, .int .i64 0] 149)).alloc (.cells #[.int .i64 0, .int .i64 0] 149)).heap.size = w.heap.size + 2) := (Array.size_push ..).trans (congrArg (· + 1) (Array.size_push ..))
  clear ca
  clear hv
  go_enter Tryz.func93, Tryz.ntmps93
  go_wp2_with fail
  refine (show Calls Tryz.prog 120 _ _ _ from HV.out).mono ?_
  rintro e w1 ⟨rfl, o1⟩
  have O1 : Hid (Only (fun _ => False) w w1) := (((Only.refl (fun _ => False) w).alloc _).alloc _).trans o1 (fun k hk e => by omega)
  have h0 := (o1.block w.heap.size (by rw [CZ.out]; omega) (by omega)).trans CA.out
  have c0 := wr_cell h0 0
  have c1 := wr_cell h0 1
  have f0 := wr_froz h0 0
  have f1 := wr_froz h0 1
  simp only [List.getElem?_toArray, List.getElem?_cons_succ, List.getElem?_cons_zero] at c0 c1
  clear h0 CA CZ
  clear HV o1
  have q := set2 c0 c1 (.int .i64 0) (.int .i64 0)
  have Q : Hid (((w1.setCell ⟨w.heap.size, 0, none⟩ (.int .i64 0)).setCell ⟨w.heap.size, 1, none⟩ (.int .i64 0)).cell? ⟨w.heap.size, 0, none⟩ = some (.int .i64 0) ∧ ((w1.setCell ⟨w.heap.size, 0, none⟩ (.int .i64 0)).setCell ⟨w.heap.size, 1, none⟩ (.int .i64 0)).cell? ⟨w.heap.size, 1, none⟩ = some (.int .i64 0)) := q
  clear q
  go_wp2
  refine bodyPost_ret (results_two rfl _ _ w.heap.size Q.out.1 Q.out.2 rfl) rfl ?_
  exact ⟨rfl, (O1.out.setCell _ _ (fun g => by simp only at g; omega)).setCell _ _ (fun g => by simp only at g; omega)⟩
set_option maxRecDepth 100000 in
theorem check_bad (v : Value) (w : World) (hv : BadW w v) : Calls Tryz.prog 67 #[v] w fun e w' => e = .returned (.int .i64 1) ∧ Only (fun _ => False) w w' := by
  have HV : Hid (Calls Tryz.prog 93 #[v] w fun e w' => e = .returned (.tuple #[.agg #[.int .i64 0, .int .i64 0], .int .i64 1]) ∧ Only (fun _ => False) w w') := measured_bad v w hv
  clear hv
  go_enter Tryz.func67, Tryz.ntmps67
  go_wp2_with fail
  refine (show Calls Tryz.prog 93 _ _ _ from HV.out).mono ?_
  rintro e w1 ⟨rfl, o1⟩
  have O1 : Hid (Only (fun _ => False) w w1) := o1
  clear HV o1
  go_wp2
  go_ret
  exact ⟨rfl, O1.out.alloc _⟩
end Go.Proofs.YtbhpjakjlfkfiaaGreatDoor
namespace Go.Proofs.YtbhpjakjlfkfiaaGreatDoor
open Go.RowKit Go.Lib
set_option linter.unusedSimpArgs false
set_option linter.unusedVariables false
theorem nilP (W : World) : (Instr.typeAssert .nilIface 112 125 true).run Tryz.prog W = .ok (.tuple #[.agg #[.nilIface], .bool false]) W := by kernel_rfl
theorem nilC (W : World) : (Instr.typeAssert .nilIface 112 147 true).run Tryz.prog W = .ok (.tuple #[.agg #[.string ⟨#[]⟩], .bool false]) W := by kernel_rfl
set_option maxRecDepth 100000 in
set_option maxHeartbeats 4000000 in
theorem mitem (d : Nat) (H : MsC d false 120) : MsC (d + 1) true 147 := by
  intro t v w S M k o dd h hM hsm hv hk hd1 hd2 ho hT hg
  rcases h with ⟨h7, hl, rfl⟩ | ⟨h8, hl, rfl⟩ | ⟨h7, h8, u, rfl, hu⟩
  · have hms : msB (d + 1) true t k o = (decide (k + 1 ≤ 1024) && clB t.s) := by
      unfold msB okV sz dp
      rw [if_pos h7, if_pos (.inl h7), if_pos (.inl h7), decide_eq_true (show o + 0 ≤ 32 by omega), Bool.and_true, Bool.and_comm]
    have hsz : sz (d + 1) true t = 1 := by unfold sz; rw [if_pos (.inl h7)]
    have mP := va_miss 147 125 112 _ Tryz.underlying125 (by intro m h; cases h) (by decide) _ vzero_Push
    have hC := va_hit 147 112 _ Tryz.underlying147 (by intro m h; cases h)
    have HM : Hid (∀ w1, Only (fun _ => False) w w1 → Calls Tryz.prog 143 #[.pointer (some ⟨M, 0, none⟩)] w1 fun e w' => e = .returned (.bool (decide ((k : Int) + 1 ≤ 1024))) ∧ Only (fun b => b = M) w1 w' ∧ VmB w' M ((k : Int) + 1) dd) := fun w1 o1 => vcount_all M k dd w1 (hv.keep o1) (by omega) (by omega)
    have HA : Hid (∀ w1, Only (fun b => b = M) w w1 → Calls Tryz.prog 158 #[.agg #[.string t.s]] w1 fun e w' => e = .returned (.bool (clB t.s)) ∧ Only (fun _ => False) w1 w') := fun w1 o1 => vcallable_any t.s w1 (hT.keep o1 hg.1 hg.2.1 hg.2.2).1
    have HD : Hid (0 ≤ dd ∧ dd ≤ 1000 ∧ M < w.heap.size) := ⟨hd1, hd2, (Array.getElem?_eq_some_iff.1 hv).1⟩
    have O0 : Hid (Only (fun _ => False) w w) := Only.refl _ _
    rw [hms, hsz]
    obtain ⟨a, ha⟩ : ∃ a, a = clB t.s := ⟨_, rfl⟩
    obtain ⟨s, hs⟩ : ∃ s, s = t.s := ⟨_, rfl⟩
    rw [← ha] at HA ⊢
    rw [← hs] at HA ⊢
    clear hM hsm hv hd1 hd2 ho hT hg hsz hms ha hs hl h7 H
    by_cases h1 : k + 1 ≤ 1024
    · have e1 : decide ((k : Int) + 1 ≤ 1024) = true := decide_eq_true (by omega)
      rw [e1] at HM
      rw [decide_eq_true h1]
      clear e1
      go_enter Tryz.func147, Tryz.ntmps147
      go_wp2_with fail
      refine (show Calls Tryz.prog 143 _ _ _ from HM.out _ (by repeat' first | exact O0.out | apply Only.alloc)).mono ?_
      rintro e w1 ⟨rfl, o1, m1⟩
      have O1 : Hid (Only (fun b => b = M) w w1 ∧ VmB w1 M ((k : Int) + 1) dd) := ⟨Only.trans (show Only (fun b => b = M) w _ by repeat' first | exact (Only.refl _ _) | apply Only.alloc) o1 (fun _ _ g => g), m1⟩
      have x0 : w1.cell? ⟨w.heap.size + 1, 0, none⟩ = some (.string s) := o1.cell (a := ⟨w.heap.size + 1, 0, none⟩) (by simp [go_sem]) (by have := HD.out; simp only; omega)
      have HA1 : Hid _ := HA.out w1 O1.out.1
      clear HM o1 m1 HA
      go_wp2_with fail
      refine (show Calls Tryz.prog 158 _ _ _ from HA1.out).mono ?_
      rintro e w2 ⟨rfl, o2⟩
      have HF : Hid (Only (fun b => b = M) w w2 ∧ VmB w2 M ((k + 1 : Nat) : Int) dd) := ⟨O1.out.1.trans (o2.mono (bs' := fun b => b = M) (fun _ _ g => g.elim)) (fun _ _ g => g), by have := O1.out.2.keep o2; simpa using this⟩
      clear HA1 o2 O1 x0
      go_wp2
      go_ret
      exact ⟨by simp, HF.out.1, fun _ => ⟨dd, HF.out.2, HD.out.1, HD.out.2.1⟩⟩
    · have e1 : decide ((k : Int) + 1 ≤ 1024) = false := decide_eq_false (by omega)
      rw [e1] at HM
      rw [decide_eq_false h1]
      clear e1 HA
      go_enter Tryz.func147, Tryz.ntmps147
      go_wp2_with fail
      refine (show Calls Tryz.prog 143 _ _ _ from HM.out _ (by repeat' first | exact O0.out | apply Only.alloc)).mono ?_
      rintro e w1 ⟨rfl, o1, m1⟩
      have O1 : Hid (Only (fun b => b = M) w w1) := Only.trans (show Only (fun b => b = M) w _ by repeat' first | exact (Only.refl _ _) | apply Only.alloc) o1 (fun _ _ g => g)
      clear HM o1 m1
      go_wp2
      go_ret
      exact ⟨by simp, O1.out, fun h => by simp at h⟩
  · have hms : msB (d + 1) true t k o = false := by
      unfold msB okV
      rw [if_neg (by omega), if_pos h8]
      rfl
    have mP := nilP
    have mC := nilC
    have O0 : Hid (Only (fun b => b = M) w w) := Only.refl _ _
    rw [hms]
    clear hM hsm hv hd1 hd2 ho hT hg hms hl h8 H
    go_enter Tryz.func147, Tryz.ntmps147
    go_wp2
    go_ret
    exact ⟨rfl, (by repeat' first | exact O0.out | apply Only.alloc), fun h => by cases h⟩
  · have hsz : sz (d + 1) true t = sz d false t := by
      show (if t.k = 7 ∨ t.k = 8 then 1 else sz d false t) = sz d false t
      rw [if_neg (by omega)]
    have hdp : dp (d + 1) true t = dp d false t := by
      show (if t.k = 7 ∨ t.k = 8 then 0 else dp d false t) = dp d false t
      rw [if_neg (by omega)]
    have hok : okV (d + 1) true t = okV d false t := by
      show (if t.k = 7 then clB t.s else if t.k = 8 then false else okV d false t) = okV d false t
      rw [if_neg h7, if_neg h8]
    have hms : msB (d + 1) true t k o = msB d false t k o := by
      unfold msB
      rw [hok, hsz, hdp]
    clear hok hdp
    obtain ⟨T1, y1, rfl⟩ := hu.iface h8
    have hP := va_hit 125 112 _ Tryz.underlying125 (by intro m h; cases h)
    have HV : Hid (∀ w1, Only (fun _ => False) w w1 → Calls Tryz.prog 120 #[.pointer (some ⟨M, 0, none⟩), .iface T1 y1, .int .i64 (o : Int)] w1 fun e w' => e = .returned (.bool (msB d false t k o)) ∧ Hid (Only (fun b => b = M) w1 w' ∧ (msB d false t k o = true → ∃ dd' : Int, VmB w' M ((k + sz d false t : Nat) : Int) dd' ∧ 0 ≤ dd' ∧ dd' ≤ 1000))) := fun w1 o1 => H t _ w1 S M k o dd (hu.only o1 (fun _ _ g => g)) hM hsm (hv.keep o1) hk hd1 hd2 ho (hT.frame o1) hg
    have O0 : Hid (Only (fun _ => False) w w) := Only.refl _ _
    rw [hms, hsz]
    obtain ⟨Z, hZ⟩ : ∃ Z, Z = msB d false t k o := ⟨_, rfl⟩
    rw [← hZ] at HV ⊢
    clear hM hsm hv hd1 hd2 ho hT hg hms hsz h7 h8 H hu hZ
    go_enter Tryz.func147, Tryz.ntmps147
    go_wp2_with fail
    refine (show Calls Tryz.prog 120 _ _ _ from HV.out _ (by repeat' first | exact O0.out | apply Only.alloc)).mono ?_
    rintro e w1 ⟨rfl, G1⟩
    have HF : Hid (Only (fun b => b = M) w w1 ∧ (Z = true → ∃ dd' : Int, VmB w1 M ((k + sz d false t : Nat) : Int) dd' ∧ 0 ≤ dd' ∧ dd' ≤ 1000)) := ⟨Only.trans (show Only (fun b => b = M) w _ by repeat' first | exact (Only.refl _ _) | apply Only.alloc) G1.out.1 (fun _ _ g => g), G1.out.2⟩
    clear HV G1
    go_wp2
    go_ret
    exact ⟨rfl, HF.out⟩
theorem mval (d : Nat) (H1 : MsC d false 120) (H2 : MsC d true 147) : MsC (d + 1) false 120 := by
  intro t v w S M k o dd h hM hsm hv hk hd1 hd2 ho hT hg
  by_cases h4 : t.k = 4
  · exact mlist d (ev_values d H1) t v w S M k o dd h h4 hM hsm hv hk hd1 hd2 ho hT hg
  by_cases h5 : t.k = 5
  · exact mquot d (ev_items d H2) t v w S M k o dd h h5 hM hsm hv hk hd1 hd2 ho hT hg
  exact mleaf d t v w S M k o dd h (by omega) (by obtain ⟨e, he⟩ := hsm; exact he.str) hv hk hd1 hd2 ho hT hg
theorem ms_all : ∀ d : Nat, MsC d false 120 ∧ MsC d true 147
  | 0 => ⟨fun t v w S M k o dd h => h.elim, fun t v w S M k o dd h => h.elim⟩
  | d + 1 => ⟨mval d (ms_all d).1 (ms_all d).2, mitem d (ms_all d).1⟩
end Go.Proofs.YtbhpjakjlfkfiaaGreatDoor
namespace Go.Proofs.YtbhpjakjlfkfiaaGreatDoor
open Go.RowKit Go.Lib
set_option linter.unusedSimpArgs false
set_option linter.unusedVariables false
/-- is a value sound? -/
def sdB (d : Nat) (t : Vt) : Bool := msB d false t 0 0
/-- what measured answers -/
def MeP (Z : Bool) (Y : Nat) (w : World) (e : Ending) (w' : World) : Prop := ∃ dd : Int, e = .returned (.tuple #[.agg #[.int .i64 (if Z then (Y : Int) else 0), .int .i64 (if Z then dd else 0)], .int .i64 (if Z then 0 else 1)]) ∧ Only (fun _ => False) w w'
set_option maxRecDepth 100000 in
set_option maxHeartbeats 1000000 in
theorem measured_any {d : Nat} {t : Vt} {v : Value} {w : World} {S : Nat → Prop} (h : TiAt w S d false t v) (hS : ∀ b, S b → b < w.heap.size) (hsm : ∃ e, SmT e t) (hT : Tb w) : Calls Tryz.prog 93 #[v] w (MeP (sdB d t) (sz d false t) w) := by
  obtain ⟨W, hW⟩ : ∃ W, W = (w.alloc (.cells #[.int .i64 0, .int .i64 0] 149)).alloc (.cells #[.int .i64 0, .int .i64 0] 149) := ⟨_, rfl⟩
  obtain ⟨N, hN⟩ : ∃ N, N = w.heap.size := ⟨_, rfl⟩
  have oW : Only (fun _ => False) w W := by rw [hW]; exact ((Only.refl _ w).alloc _).alloc _
  have a0 : W.heap[N]? = some (.cells #[.int .i64 0, .int .i64 0] 149) := by rw [hW]; exact (((Only.refl (fun _ => False) _).alloc _).block N (by simp [hN]) (fun g => g)).trans (va_at _ _ _ hN)
  have a1 : W.heap[N + 1]? = some (.cells #[.int .i64 0, .int .i64 0] 149) := by rw [hW]; exact va_at _ _ _ (by simp [hN])
  have lt := hT.lt
  have HV : Hid (Calls Tryz.prog 120 #[.pointer (some ⟨N + 1, 0, none⟩), v, .int .i64 0] W fun e w' => e = .returned (.bool (sdB d t)) ∧ Hid (Only (fun b => b = N + 1) W w' ∧ (sdB d t = true → ∃ dd' : Int, VmB w' (N + 1) ((0 + sz d false t : Nat) : Int) dd' ∧ 0 ≤ dd' ∧ dd' ≤ 1000))) :=
    (ms_all d).1 t v W S (N + 1) 0 0 0 (h.only oW (fun _ _ g => g)) (fun b hb => by have := hS b hb; omega) hsm a1 (by omega) (by omega) (by omega) (by omega) (hT.frame oW) ⟨by omega, by omega, by omega⟩
  have HA : Hid (W.heap[N]? = some (.cells #[.int .i64 0, .int .i64 0] 149) ∧ Only (fun _ => False) w W ∧ N = w.heap.size) := ⟨a0, oW, hN⟩
  obtain ⟨Z, hZ⟩ : ∃ Z, Z = sdB d t := ⟨_, rfl⟩
  obtain ⟨Y, hY⟩ : ∃ Y, Y = sz d false t := ⟨_, rfl⟩
  rw [← hZ, ← hY] at HV
  rw [← hZ, ← hY]
  clear h hS hsm hT oW a0 a1 lt hZ hY
  go_enter Tryz.func93, Tryz.ntmps93
  go_wp2_with fail
  rw [← hW, ← hN]
  clear hW hN
  refine (show Calls Tryz.prog 120 _ _ _ from HV.out).mono ?_
  rintro e w1 ⟨rfl, G1⟩
  have o1 := G1.out.1
  have h0 := (o1.block N (Array.getElem?_eq_some_iff.1 HA.out.1).1 (by omega)).trans HA.out.1
  have O1 : Hid (Only (fun _ => False) w w1) := HA.out.2.1.trans o1 (fun k hk e => by have := HA.out.2.2; omega)
  have c0 := wr_cell h0 0
  have c1 := wr_cell h0 1
  have f0 := wr_froz h0 0
  have f1 := wr_froz h0 1
  simp only [List.getElem?_toArray, List.getElem?_cons_succ, List.getElem?_cons_zero] at c0 c1
  cases Z with
  | false =>
    have q := set2 c0 c1 (.int .i64 0) (.int .i64 0)
    have Q : Hid _ := q
    clear h0 HV o1 G1 q
    go_wp2
    refine bodyPost_ret (results_two rfl _ _ N Q.out.1 Q.out.2 rfl) rfl ?_
    refine ⟨0, rfl, (O1.out.setCell _ _ (fun g => ?_)).setCell _ _ (fun g => ?_)⟩ <;> (have := HA.out.2.2; simp only at g; omega)
  | true =>
    obtain ⟨dd, m1, _, _⟩ := G1.out.2 rfl
    have d0 := wr_cell m1 0
    have d1 := wr_cell m1 1
    simp only [List.getElem?_toArray, List.getElem?_cons_succ, List.getElem?_cons_zero, Nat.zero_add] at d0 d1
    have q := set2 c0 c1 (.int .i64 (Y : Int)) (.int .i64 dd)
    have Q : Hid _ := q
    clear h0 HV o1 G1 q m1
    go_wp2
    refine bodyPost_ret (results_two rfl _ _ N Q.out.1 Q.out.2 rfl) rfl ?_
    refine ⟨dd, rfl, (O1.out.setCell _ _ (fun g => ?_)).setCell _ _ (fun g => ?_)⟩ <;> (have := HA.out.2.2; simp only at g; omega)
set_option maxRecDepth 100000 in
theorem vcheck_any {d : Nat} {t : Vt} {v : Value} {w : World} {S : Nat → Prop} (h : TiAt w S d false t v) (hS : ∀ b, S b → b < w.heap.size) (hsm : ∃ e, SmT e t) (hT : Tb w) : Calls Tryz.prog 67 #[v] w fun e w' => e = .returned (.int .i64 (if sdB d t then 0 else 1)) ∧ Only (fun _ => False) w w' := by
  have HV : Hid _ := measured_any h hS hsm hT
  clear h hS hsm hT
  obtain ⟨X3, h3⟩ : ∃ X : Int, X = (if sdB d t then 0 else 1) := ⟨_, rfl⟩
  rw [← h3]
  have H3 : Hid (X3 = (if sdB d t then 0 else 1)) := h3
  clear h3
  go_enter Tryz.func67, Tryz.ntmps67
  go_wp2_with fail
  refine (show Calls Tryz.prog 93 _ _ _ from HV.out).mono ?_
  rintro e w1 ⟨dd, rfl, o1⟩
  have O1 : Hid (Only (fun _ => False) w w1) := o1
  obtain ⟨X1, h1⟩ : ∃ X : Int, X = (if sdB d t then (sz d false t : Int) else 0) := ⟨_, rfl⟩
  obtain ⟨X2, h2⟩ : ∃ X : Int, X = (if sdB d t then dd else 0) := ⟨_, rfl⟩
  rw [← h1, ← h2, ← H3.out]
  clear HV o1 h1 h2
  go_wp2
  go_ret
  exact ⟨rfl, O1.out.alloc _⟩
end Go.Proofs.YtbhpjakjlfkfiaaGreatDoor
namespace Go.Proofs.YtbhpjakjlfkfiaaGreatDoor
open Go.RowKit Go.Lib
set_option linter.unusedSimpArgs false
set_option linter.unusedVariables false
theorem eql_iface (U T1 T2 : TypeId) (x y : Value) (w : World) : (binOp .eql U (.iface T1 x) (.iface T2 y)).run Tryz.prog w = ((Op.equalIn Op.maxDepth U (.iface T1 x) (.iface T2 y)).run Tryz.prog w).andThen fun b w' => .ok (.bool b) w' := by
  simp only [binOp]
  simp [Op.equal]
theorem eq_iface {U T : TypeId} {m} {i : TypeInfo} (d : Nat) (x y : Value) (w : World) (hU : Tryz.prog.underlying U = some (.interface m)) (hi : Tryz.prog.info? T = some i) (hc : i.comparable = true) : (Op.equalIn (d + 1) U (.iface T x) (.iface T y)).run Tryz.prog w = (Op.equalIn d T x y).run Tryz.prog w := by
  simp [Op.equalIn, run_underlying hU, typeInfo, hi, hc]
set_option maxRecDepth 100000 in
theorem eq_int (d : Nat) (n m : Int) (w : World) : (Op.equalIn (d + 2) 55 (.agg #[.int .i64 n]) (.agg #[.int .i64 m])).run Tryz.prog w = .ok (n == m) w := by
  have hS : Tryz.prog.underlying 55 = some (.struct (Tryz.prog.fieldsOf 55)) := by kernel_rfl
  have hp : Tryz.prog.stoodInHeld 55 = false := by kernel_rfl
  have u := Tryz.underlying2
  have a := Tryz.isAgg2
  have z := Tryz.sizeOf2
  rw [run_equalIn_agg w (d + 1) 55 _ _ hS hp]
  simp only [Program.fieldsOf, Tryz.underlying55]
  go_simp
  all_goals (cases h : (n == m) <;> simp_all)
theorem eqv_int (U : TypeId) {q} (hU : Tryz.prog.underlying U = some (.interface q)) (n m : Int) (w : World) : (binOp .eql U (.iface 55 (.agg #[.int .i64 n])) (.iface 55 (.agg #[.int .i64 m]))).run Tryz.prog w = .ok (.bool (n == m)) w := by
  obtain ⟨D, hD⟩ : ∃ D, Op.maxDepth = D + 2 + 1 := ⟨9997, rfl⟩
  have h1 := eq_iface (D + 2) (.agg #[.int .i64 n]) (.agg #[.int .i64 m]) w hU (T := 55) (i := Tryz.t55) (by kernel_rfl) (by kernel_rfl)
  rw [eql_iface, hD, h1, eq_int D n m w]
  rfl
set_option maxRecDepth 100000 in
theorem eq_str (d : Nat) (n m : ByteArray) (w : World) : (Op.equalIn (d + 2) 79 (.agg #[.string n]) (.agg #[.string m])).run Tryz.prog w = .ok (n.toList == m.toList) w := by
  have hS : Tryz.prog.underlying 79 = some (.struct (Tryz.prog.fieldsOf 79)) := by kernel_rfl
  have hp : Tryz.prog.stoodInHeld 79 = false := by kernel_rfl
  have u := Tryz.underlying9
  have a := Tryz.isAgg9
  have z := Tryz.sizeOf9
  rw [run_equalIn_agg w (d + 1) 79 _ _ hS hp]
  simp only [Program.fieldsOf, Tryz.underlying79]
  go_simp
  all_goals (cases h : (n.toList == m.toList) <;> simp_all)
theorem eqv_str (U : TypeId) {q} (hU : Tryz.prog.underlying U = some (.interface q)) (n m : ByteArray) (w : World) : (binOp .eql U (.iface 79 (.agg #[.string n])) (.iface 79 (.agg #[.string m]))).run Tryz.prog w = .ok (.bool (n.toList == m.toList)) w := by
  obtain ⟨D, hD⟩ : ∃ D, Op.maxDepth = D + 2 + 1 := ⟨9997, rfl⟩
  have h1 := eq_iface (D + 2) (.agg #[.string n]) (.agg #[.string m]) w hU (T := 79) (i := Tryz.t79) (by kernel_rfl) (by kernel_rfl)
  rw [eql_iface, hD, h1, eq_str D n m w]
  rfl
set_option maxRecDepth 100000 in
theorem eq_bool (d : Nat) (n m : Bool) (w : World) : (Op.equalIn (d + 2) 59 (.agg #[.bool n]) (.agg #[.bool m])).run Tryz.prog w = .ok (n == m) w := by
  have hS : Tryz.prog.underlying 59 = some (.struct (Tryz.prog.fieldsOf 59)) := by kernel_rfl
  have hp : Tryz.prog.stoodInHeld 59 = false := by kernel_rfl
  have u := Tryz.underlying4
  have a := Tryz.isAgg4
  have z := Tryz.sizeOf4
  rw [run_equalIn_agg w (d + 1) 59 _ _ hS hp]
  simp only [Program.fieldsOf, Tryz.underlying59]
  go_simp
  all_goals (cases h : (n == m) <;> simp_all)
theorem eqv_bool (U : TypeId) {q} (hU : Tryz.prog.underlying U = some (.interface q)) (n m : Bool) (w : World) : (binOp .eql U (.iface 59 (.agg #[.bool n])) (.iface 59 (.agg #[.bool m]))).run Tryz.prog w = .ok (.bool (n == m)) w := by
  obtain ⟨D, hD⟩ : ∃ D, Op.maxDepth = D + 2 + 1 := ⟨9997, rfl⟩
  have h1 := eq_iface (D + 2) (.agg #[.bool n]) (.agg #[.bool m]) w hU (T := 59) (i := Tryz.t59) (by kernel_rfl) (by kernel_rfl)
  rw [eql_iface, hD, h1, eq_bool D n m w]
  rfl
set_option maxRecDepth 100000 in
theorem eq_box (d : Nat) (n m : Int) (w : World) : (Op.equalIn (d + 2) 87 (.agg #[.int .i64 n]) (.agg #[.int .i64 m])).run Tryz.prog w = .ok (n == m) w := by
  have hS : Tryz.prog.underlying 87 = some (.struct (Tryz.prog.fieldsOf 87)) := by kernel_rfl
  have hp : Tryz.prog.stoodInHeld 87 = false := by kernel_rfl
  have u := Tryz.underlying3
  have a := Tryz.isAgg3
  have z := Tryz.sizeOf3
  rw [run_equalIn_agg w (d + 1) 87 _ _ hS hp]
  simp only [Program.fieldsOf, Tryz.underlying87]
  go_simp
  all_goals (cases h : (n == m) <;> simp_all)
theorem eqv_box (U : TypeId) {q} (hU : Tryz.prog.underlying U = some (.interface q)) (n m : Int) (w : World) : (binOp .eql U (.iface 87 (.agg #[.int .i64 n])) (.iface 87 (.agg #[.int .i64 m]))).run Tryz.prog w = .ok (.bool (n == m)) w := by
  obtain ⟨D, hD⟩ : ∃ D, Op.maxDepth = D + 2 + 1 := ⟨9997, rfl⟩
  have h1 := eq_iface (D + 2) (.agg #[.int .i64 n]) (.agg #[.int .i64 m]) w hU (T := 87) (i := Tryz.t87) (by kernel_rfl) (by kernel_rfl)
  rw [eql_iface, hD, h1, eq_box D n m w]
  rfl
set_option maxRecDepth 100000 in
theorem eq_call (d : Nat) (n m : ByteArray) (w : World) : (Op.equalIn (d + 2) 147 (.agg #[.string n]) (.agg #[.string m])).run Tryz.prog w = .ok (n.toList == m.toList) w := by
  have hS : Tryz.prog.underlying 147 = some (.struct (Tryz.prog.fieldsOf 147)) := by kernel_rfl
  have hp : Tryz.prog.stoodInHeld 147 = false := by kernel_rfl
  have u := Tryz.underlying9
  have a := Tryz.isAgg9
  have z := Tryz.sizeOf9
  rw [run_equalIn_agg w (d + 1) 147 _ _ hS hp]
  simp only [Program.fieldsOf, Tryz.underlying147]
  go_simp
  all_goals (cases h : (n.toList == m.toList) <;> simp_all)
theorem eqv_call (U : TypeId) {q} (hU : Tryz.prog.underlying U = some (.interface q)) (n m : ByteArray) (w : World) : (binOp .eql U (.iface 147 (.agg #[.string n])) (.iface 147 (.agg #[.string m]))).run Tryz.prog w = .ok (.bool (n.toList == m.toList)) w := by
  obtain ⟨D, hD⟩ : ∃ D, Op.maxDepth = D + 2 + 1 := ⟨9997, rfl⟩
  have h1 := eq_iface (D + 2) (.agg #[.string n]) (.agg #[.string m]) w hU (T := 147) (i := Tryz.t147) (by kernel_rfl) (by kernel_rfl)
  rw [eql_iface, hD, h1, eq_call D n m w]
  rfl
theorem eqv_ne (U T1 T2 : TypeId) {q} (hU : Tryz.prog.underlying U = some (.interface q)) (x y : Value) (h : T1 ≠ T2) (w : World) : (binOp .eql U (.iface T1 x) (.iface T2 y)).run Tryz.prog w = .ok (.bool false) w := by
  obtain ⟨D, hD⟩ : ∃ D, Op.maxDepth = D + 1 := ⟨9999, rfl⟩
  have h1 : (Op.equalIn (D + 1) U (.iface T1 x) (.iface T2 y)).run Tryz.prog w = .ok false w := by
    simp only [Op.equalIn, Sem.run_bind, run_underlying hU, Result.andThen_ok]
    simp [h]
  rw [eql_iface, hD, h1]
  rfl
end Go.Proofs.YtbhpjakjlfkfiaaGreatDoor
namespace Go.Proofs.YtbhpjakjlfkfiaaGreatDoor
open Go.RowKit Go.Lib
set_option linter.unusedSimpArgs false
set_option linter.unusedVariables false
def smL (f : Vt → Vt → Bool) : List Vt → List Vt → Bool
  | [], [] => true
  | x :: a, y :: b => f x y && smL f a b
  | _, _ => false
/-- are two values (items) the same? -/
def smV : Nat → Bool → Vt → Vt → Bool
  | 0, _, _, _ => false
  | d + 1, true, a, b => if a.k = 7 ∨ b.k = 7 then decide (a.k = 7) && decide (b.k = 7) && (a.s.toList == b.s.toList) else smV d false a b
  | d + 1, false, a, b => decide (a.k = b.k) && (if a.k = 1 ∨ a.k = 6 then a.n == b.n else if a.k = 2 then a.s.toList == b.s.toList else if a.k = 3 then (a.n != 0) == (b.n != 0) else smL (smV d (decide (a.k = 5))) a.l b.l)
theorem smL_len (f : Vt → Vt → Bool) : ∀ a b : List Vt, a.length ≠ b.length → smL f a b = false
  | [], [], h => absurd rfl h
  | [], y :: b, _ => rfl
  | x :: a, [], _ => rfl
  | x :: a, y :: b, h => by
    unfold smL
    rw [smL_len f a b (by simpa using h), Bool.and_false]
theorem drop_at {l : List Vt} {j : Nat} {x : Vt} (hx : l[j]? = some x) : l.drop j = x :: l.drop (j + 1) := by
  obtain ⟨hlt, he⟩ := List.getElem?_eq_some_iff.1 hx
  rw [List.drop_eq_getElem_cons hlt, he]
/-- what same, sameItem answer of what is what it may be -/
def SaV (d : Nat) (i : Bool) (F : Nat) : Prop := ∀ (a b : Vt) (va vb : Value) (w : World) (S : Nat → Prop), TiAt w S d i a va → TiAt w S d i b vb → (okV d i a = true ∧ ∃ e, SmT e a) → (okV d i b = true ∧ ∃ e, SmT e b) → Calls Tryz.prog F #[va, vb] w fun e w' => e = .returned (.bool (smV d i a b)) ∧ Only (fun _ => False) w w'
def EfV (d : Nat) (i : Bool) (F Fm : Nat) : Prop := ∀ (la lb : List Vt) (ao bo : Option Addr) (ca cb : Nat) (w : World) (S : Nat → Prop), (∀ (j : Nat) (x : Vt), la[j]? = some x → ∃ g q u, ao = some ⟨g, q, none⟩ ∧ S g ∧ w.cell? ⟨g, q + j, none⟩ = some u ∧ TiAt w S d i x u) → (∀ (j : Nat) (x : Vt), lb[j]? = some x → ∃ g q u, bo = some ⟨g, q, none⟩ ∧ S g ∧ w.cell? ⟨g, q + j, none⟩ = some u ∧ TiAt w S d i x u) → (∀ x ∈ la, okV d i x = true ∧ ∃ e, SmT e x) → (∀ x ∈ lb, okV d i x = true ∧ ∃ e, SmT e x) → la.length ≤ 2513169434900 → lb.length ≤ 2513169434900 → Calls Tryz.prog F #[.slice ao la.length ca, .slice bo lb.length cb, .func (.func Fm) #[] #[]] w fun e w' => e = .returned (.bool (smL (smV d i) la lb)) ∧ Only (fun _ => False) w w'
set_option maxRecDepth 100000 in
set_option maxHeartbeats 4000000 in
theorem ef_values (d : Nat) (H : SaV d false 125) : EfV d false 151 125 := by
  intro la lb ao bo ca cb w S ha hb hoa hob hna hnb
  have HE : Hid (∀ (j : Nat) (x y : Vt), la[j]? = some x → lb[j]? = some y → ∃ g q u g' q' u', ao = some ⟨g, q, none⟩ ∧ bo = some ⟨g', q', none⟩ ∧ w.cell? ⟨g, q + j, none⟩ = some u ∧ w.cell? ⟨g', q' + j, none⟩ = some u' ∧ ∀ w1, Only (fun _ => False) w w1 → Calls Tryz.prog 125 #[u, u'] w1 fun e w' => e = .returned (.bool (smV d false x y)) ∧ Only (fun _ => False) w1 w') := by
    intro j x y hx hy
    obtain ⟨g, q, u, p1, p2, p3, p4⟩ := ha j x hx
    obtain ⟨g', q', u', r1, r2, r3, r4⟩ := hb j y hy
    exact ⟨g, q, u, g', q', u', p1, r1, p3, r3, fun w1 o1 => H x y u u' w1 S (p4.only o1 (fun _ _ g => g)) (r4.only o1 (fun _ _ g => g)) (hoa x (List.mem_of_getElem? hx)) (hob y (List.mem_of_getElem? hy))⟩
  obtain ⟨Z, hZ⟩ : ∃ Z, Z = smL (smV d false) la lb := ⟨_, rfl⟩
  have HZ : Hid (Z = smL (smV d false) la lb) := hZ
  obtain ⟨N, hN⟩ : ∃ N, N = la.length := ⟨_, rfl⟩
  obtain ⟨K, hK⟩ : ∃ K, K = lb.length := ⟨_, rfl⟩
  have HN : Hid (N = la.length ∧ K = lb.length ∧ N ≤ 2513169434900 ∧ K ≤ 2513169434900) := ⟨hN, hK, by omega, by omega⟩
  rw [← hN, ← hK, ← hZ]
  clear ha hb hoa hob hna hnb hZ hN hK H
  by_cases hNK : N = K
  · have e1 : ((N : Int) == (K : Int)) = true := by simp [hNK]
    subst hNK
    clear e1
    go_enter Tryz.func151, Tryz.ntmps151
    go_wp2
    go_loopw [17] (fun r wr => ∃ j : Nat, r = .int .i64 (j : Int) ∧ j ≤ N ∧ Hid (Z = smL (smV d false) (la.drop j) (lb.drop j) ∧ Only (fun _ => False) w wr)) (fun r _ => N - vuOf r)
    case atStart => exact ⟨0, rfl, Nat.zero_le _, by simpa using HZ.out, Only.refl _ _⟩
    case round =>
      obtain ⟨j, rfl, hj, HI⟩ := hrel
      obtain ⟨w1, hw1⟩ : ∃ w1, w1 = wr := ⟨_, rfl⟩
      rw [← hw1] at HI ⊢
      clear hw1
      have hNl := HN.out
      by_cases hjN : j < N
      · obtain ⟨x, hx⟩ : ∃ x, la[j]? = some x := ⟨la[j]'(by omega), List.getElem?_eq_getElem (by omega)⟩
        obtain ⟨y, hy⟩ : ∃ y, lb[j]? = some y := ⟨lb[j]'(by omega), List.getElem?_eq_getElem (by omega)⟩
        obtain ⟨g, q, u, g', q', u', rfl, rfl, c0, c1, hcall⟩ := HE.out j x y hx hy
        have o1 := HI.out.2
        have c0 := o1.cell c0 (fun g => g)
        have c1 := o1.cell c1 (fun g => g)
        have HC : Hid _ := hcall w1 o1
        have HX : Hid (j < N ∧ Z = smL (smV d false) (x :: la.drop (j + 1)) (y :: lb.drop (j + 1))) := ⟨hjN, by rw [← drop_at hx, ← drop_at hy]; exact HI.out.1⟩
        have O1 : Hid (Only (fun _ => False) w w1) := o1
        have i1 : (j : Int) < (N : Int) := by omega
        have i0 : (0 : Int) ≤ (j : Int) := by omega
        have i4 : j ≤ 2513169434900 := by omega
        obtain ⟨b, hb⟩ : ∃ b, b = smV d false x y := ⟨_, rfl⟩
        have HB : Hid (b = smV d false x y) := hb
        rw [← hb] at HC
        clear hcall o1 hx hy hNl hjN hj HI hb
        go_wp2_with fail
        refine (show Calls Tryz.prog 125 _ _ _ from HC.out).mono ?_
        rintro e w2 ⟨rfl, o2⟩
        have O2 : Hid (Only (fun _ => False) w w2) := O1.out.trans o2 (fun _ _ g => g)
        clear HC c0 c1 o2 O1
        cases b with
        | false =>
          have hzf : Z = false := by
            have := HX.out.2
            unfold smL at this
            rw [← HB.out] at this
            simpa using this
          have HF : Hid (Z = false) := hzf
          clear hzf
          go_wp2
          go_ret
          exact ⟨by rw [HF.out]; rfl, O2.out⟩
        | true =>
          have HF : Hid (Z = smL (smV d false) (la.drop (j + 1)) (lb.drop (j + 1)) ∧ Only (fun _ => False) w w2) := by
            have := HX.out.2
            unfold smL at this
            rw [← HB.out] at this
            exact ⟨by simpa using this, O2.out⟩
          have HJ : Hid (j < N) := HX.out.1
          clear HX HB O2
          go_wp2
          go_roundw
          case rel => exact ⟨j + 1, by go_num, by have := HJ.out; omega, HF⟩
          case measure => simp only [vuOf]; have := HJ.out; omega
      · obtain rfl : j = N := by omega
        have i1 : ¬ (j : Int) < (j : Int) := by omega
        have HF : Hid (Z = true ∧ Only (fun _ => False) w w1) := by
          obtain ⟨hz, o1⟩ := HI.out
          rw [show la.drop j = [] from List.drop_eq_nil_of_le (by omega), show lb.drop j = [] from List.drop_eq_nil_of_le (by omega)] at hz
          exact ⟨hz, o1⟩
        clear HI hNl hjN hj
        go_wp2
        go_ret
        exact ⟨by rw [HF.out.1]; rfl, HF.out.2⟩
  · have HF : Hid (Z = false) := by rw [HZ.out]; exact smL_len _ _ _ (by have := HN.out; omega)
    have O0 : Hid (Only (fun _ => False) w w) := Only.refl _ _
    have e1 : ((N : Int) != (K : Int)) = true := by
      simp only [bne_iff_ne, ne_eq]
      omega
    clear hNK
    go_enter Tryz.func151, Tryz.ntmps151
    go_wp2
    go_ret
    exact ⟨by rw [HF.out]; rfl, O0.out⟩
set_option maxRecDepth 100000 in
set_option maxHeartbeats 4000000 in
theorem ef_items (d : Nat) (H : SaV d true 153) : EfV d true 152 153 := by
  intro la lb ao bo ca cb w S ha hb hoa hob hna hnb
  have HE : Hid (∀ (j : Nat) (x y : Vt), la[j]? = some x → lb[j]? = some y → ∃ g q u g' q' u', ao = some ⟨g, q, none⟩ ∧ bo = some ⟨g', q', none⟩ ∧ w.cell? ⟨g, q + j, none⟩ = some u ∧ w.cell? ⟨g', q' + j, none⟩ = some u' ∧ ∀ w1, Only (fun _ => False) w w1 → Calls Tryz.prog 153 #[u, u'] w1 fun e w' => e = .returned (.bool (smV d true x y)) ∧ Only (fun _ => False) w1 w') := by
    intro j x y hx hy
    obtain ⟨g, q, u, p1, p2, p3, p4⟩ := ha j x hx
    obtain ⟨g', q', u', r1, r2, r3, r4⟩ := hb j y hy
    exact ⟨g, q, u, g', q', u', p1, r1, p3, r3, fun w1 o1 => H x y u u' w1 S (p4.only o1 (fun _ _ g => g)) (r4.only o1 (fun _ _ g => g)) (hoa x (List.mem_of_getElem? hx)) (hob y (List.mem_of_getElem? hy))⟩
  obtain ⟨Z, hZ⟩ : ∃ Z, Z = smL (smV d true) la lb := ⟨_, rfl⟩
  have HZ : Hid (Z = smL (smV d true) la lb) := hZ
  obtain ⟨N, hN⟩ : ∃ N, N = la.length := ⟨_, rfl⟩
  obtain ⟨K, hK⟩ : ∃ K, K = lb.length := ⟨_, rfl⟩
  have HN : Hid (N = la.length ∧ K = lb.length ∧ N ≤ 2513169434900 ∧ K ≤ 2513169434900) := ⟨hN, hK, by omega, by omega⟩
  rw [← hN, ← hK, ← hZ]
  clear ha hb hoa hob hna hnb hZ hN hK H
  by_cases hNK : N = K
  · have e1 : ((N : Int) == (K : Int)) = true := by simp [hNK]
    subst hNK
    clear e1
    go_enter Tryz.func152, Tryz.ntmps152
    go_wp2
    go_loopw [17] (fun r wr => ∃ j : Nat, r = .int .i64 (j : Int) ∧ j ≤ N ∧ Hid (Z = smL (smV d true) (la.drop j) (lb.drop j) ∧ Only (fun _ => False) w wr)) (fun r _ => N - vuOf r)
    case atStart => exact ⟨0, rfl, Nat.zero_le _, by simpa using HZ.out, Only.refl _ _⟩
    case round =>
      obtain ⟨j, rfl, hj, HI⟩ := hrel
      obtain ⟨w1, hw1⟩ : ∃ w1, w1 = wr := ⟨_, rfl⟩
      rw [← hw1] at HI ⊢
      clear hw1
      have hNl := HN.out
      by_cases hjN : j < N
      · obtain ⟨x, hx⟩ : ∃ x, la[j]? = some x := ⟨la[j]'(by omega), List.getElem?_eq_getElem (by omega)⟩
        obtain ⟨y, hy⟩ : ∃ y, lb[j]? = some y := ⟨lb[j]'(by omega), List.getElem?_eq_getElem (by omega)⟩
        obtain ⟨g, q, u, g', q', u', rfl, rfl, c0, c1, hcall⟩ := HE.out j x y hx hy
        have o1 := HI.out.2
        have c0 := o1.cell c0 (fun g => g)
        have c1 := o1.cell c1 (fun g => g)
        have HC : Hid _ := hcall w1 o1
        have HX : Hid (j < N ∧ Z = smL (smV d true) (x :: la.drop (j + 1)) (y :: lb.drop (j + 1))) := ⟨hjN, by rw [← drop_at hx, ← drop_at hy]; exact HI.out.1⟩
        have O1 : Hid (Only (fun _ => False) w w1) := o1
        have i1 : (j : Int) < (N : Int) := by omega
        have i0 : (0 : Int) ≤ (j : Int) := by omega
        have i4 : j ≤ 2513169434900 := by omega
        obtain ⟨b, hb⟩ : ∃ b, b = smV d true x y := ⟨_, rfl⟩
        have HB : Hid (b = smV d true x y) := hb
        rw [← hb] at HC
        clear hcall o1 hx hy hNl hjN hj HI hb
        go_wp2_with fail
        refine (show Calls Tryz.prog 153 _ _ _ from HC.out).mono ?_
        rintro e w2 ⟨rfl, o2⟩
        have O2 : Hid (Only (fun _ => False) w w2) := O1.out.trans o2 (fun _ _ g => g)
        clear HC c0 c1 o2 O1
        cases b with
        | false =>
          have hzf : Z = false := by
            have := HX.out.2
            unfold smL at this
            rw [← HB.out] at this
            simpa using this
          have HF : Hid (Z = false) := hzf
          clear hzf
          go_wp2
          go_ret
          exact ⟨by rw [HF.out]; rfl, O2.out⟩
        | true =>
          have HF : Hid (Z = smL (smV d true) (la.drop (j + 1)) (lb.drop (j + 1)) ∧ Only (fun _ => False) w w2) := by
            have := HX.out.2
            unfold smL at this
            rw [← HB.out] at this
            exact ⟨by simpa using this, O2.out⟩
          have HJ : Hid (j < N) := HX.out.1
          clear HX HB O2
          go_wp2
          go_roundw
          case rel => exact ⟨j + 1, by go_num, by have := HJ.out; omega, HF⟩
          case measure => simp only [vuOf]; have := HJ.out; omega
      · obtain rfl : j = N := by omega
        have i1 : ¬ (j : Int) < (j : Int) := by omega
        have HF : Hid (Z = true ∧ Only (fun _ => False) w w1) := by
          obtain ⟨hz, o1⟩ := HI.out
          rw [show la.drop j = [] from List.drop_eq_nil_of_le (by omega), show lb.drop j = [] from List.drop_eq_nil_of_le (by omega)] at hz
          exact ⟨hz, o1⟩
        clear HI hNl hjN hj
        go_wp2
        go_ret
        exact ⟨by rw [HF.out.1]; rfl, HF.out.2⟩
  · have HF : Hid (Z = false) := by rw [HZ.out]; exact smL_len _ _ _ (by have := HN.out; omega)
    have O0 : Hid (Only (fun _ => False) w w) := Only.refl _ _
    have e1 : ((N : Int) != (K : Int)) = true := by
      simp only [bne_iff_ne, ne_eq]
      omega
    clear hNK
    go_enter Tryz.func152, Tryz.ntmps152
    go_wp2
    go_ret
    exact ⟨by rw [HF.out]; rfl, O0.out⟩
end Go.Proofs.YtbhpjakjlfkfiaaGreatDoor
namespace Go.Proofs.YtbhpjakjlfkfiaaGreatDoor
open Go.RowKit Go.Lib
set_option linter.unusedSimpArgs false
set_option linter.unusedVariables false
theorem ok_ne8 {d : Nat} {t : Vt} (h : okV d false t = true) : t.k ≠ 8 := by
  cases d with
  | zero => cases h
  | succ d =>
    intro e
    have : okV (d + 1) false t = alB t := by
      show (if t.k = 4 ∨ t.k = 5 then _ else alB t) = _
      rw [if_neg (by omega)]
    rw [this] at h
    unfold alB at h
    rw [if_neg (by omega), if_neg (by omega), if_neg (by omega)] at h
    simp only [decide_eq_true_eq] at h
    omega
theorem ti_list {w : World} {S : Nat → Prop} {d : Nat} {t : Vt} {v : Value} {k : Int} (h : TiAt w S (d + 1) false t v) (hk : t.k = k) (hk4 : k = 4 ∨ k = 5) : ∃ ao cap, v = .iface (if k = 4 then 81 else 85) (.agg #[.slice ao t.l.length cap]) ∧ t.l.length ≤ cap ∧ ∀ i x, t.l[i]? = some x → ∃ g q u, ao = some ⟨g, q, none⟩ ∧ S g ∧ w.cell? ⟨g, q + i, none⟩ = some u ∧ TiAt w S d (decide (k = 5)) x u := by
  rcases h with ⟨e, _⟩ | ⟨e, _⟩ | ⟨e, _⟩ | ⟨e, _⟩ | ⟨e, _⟩ | ⟨_, ao, cap, h1, h2, h3⟩
  · omega
  · omega
  · omega
  · omega
  · omega
  · rw [hk] at h1 h3
    exact ⟨ao, cap, h1, h2, h3⟩
theorem miss_list {w : World} {S : Nat → Prop} {d : Nat} {t : Vt} {v : Value} (h : TiAt w S (d + 1) false t v) (hk : ¬ t.k = 4) (h8 : t.k ≠ 8) : ∀ W : World, (Instr.typeAssert v 51 81 true).run Tryz.prog W = .ok (.tuple #[.agg #[.slice none 0 0], .bool false]) W := by
  by_cases h5 : t.k = 5
  · obtain ⟨ao, cap, rfl, _⟩ := ti_list h h5 (.inr rfl)
    exact va_miss 85 81 51 _ Tryz.underlying81 (by intro m h; cases h) (by decide) _ zL _
  · exact (leaf_lq h (by omega)).1.1
theorem miss_quot {w : World} {S : Nat → Prop} {d : Nat} {t : Vt} {v : Value} (h : TiAt w S (d + 1) false t v) (hk : ¬ t.k = 5) (h8 : t.k ≠ 8) : ∀ W : World, (Instr.typeAssert v 51 85 true).run Tryz.prog W = .ok (.tuple #[.agg #[.slice none 0 0], .bool false]) W := by
  by_cases h4 : t.k = 4
  · obtain ⟨ao, cap, rfl, _⟩ := ti_list h h4 (.inl rfl)
    exact va_miss 81 85 51 _ Tryz.underlying85 (by intro m h; cases h) (by decide) _ zQ _
  · exact (leaf_lq h (by omega)).1.2
set_option maxRecDepth 100000 in
set_option maxHeartbeats 4000000 in
theorem same_list (d : Nat) (H : EfV d false 151 125) (a b : Vt) (va vb : Value) (w : World) (S : Nat → Prop) (h1 : TiAt w S (d + 1) false a va) (h2 : TiAt w S (d + 1) false b vb) (ho1 : okV (d + 1) false a = true ∧ ∃ e, SmT e a) (ho2 : okV (d + 1) false b = true ∧ ∃ e, SmT e b) (hk : a.k = 4) : Calls Tryz.prog 125 #[va, vb] w fun e w' => e = .returned (.bool (smV (d + 1) false a b)) ∧ Only (fun _ => False) w w' := by
  obtain ⟨ao, ca, rfl, _, hea⟩ := ti_list h1 hk (by decide)
  have hHit := va_hit 81 51 _ Tryz.underlying81 (by intro m h; cases h)
  have O0 : Hid (Only (fun _ => False) w w) := Only.refl _ _
  by_cases hb : b.k = 4
  · obtain ⟨bo, cb, rfl, _, heb⟩ := ti_list h2 hb (by decide)
    have hsm : smV (d + 1) false a b = smL (smV d false) a.l b.l := by
      show (decide (a.k = b.k) && _) = _
      rw [hk, hb]
      rfl
    have hall : ∀ t : Vt, t.k = 4 → okV (d + 1) false t = true ∧ (∃ e, SmT e t) → (∀ x ∈ t.l, okV d false x = true ∧ ∃ e, SmT e x) ∧ t.l.length ≤ 2513169434900 := by
      rintro t ht ⟨hok, e, he⟩
      have : okV (d + 1) false t = t.l.all (okV d false) := by
        show (if t.k = 4 ∨ t.k = 5 then t.l.all (okV d (decide (t.k = 5))) else alB t) = _
        rw [if_pos (by omega), ht]
        rfl
      rw [this, List.all_eq_true] at hok
      exact ⟨fun x hx => ⟨hok x hx, he.parts x hx⟩, he.len⟩
    have HE : Hid (∀ w1, Only (fun _ => False) w w1 → Calls Tryz.prog 151 #[.slice ao a.l.length ca, .slice bo b.l.length cb, .func (.func 125) #[] #[]] w1 fun e w' => e = .returned (.bool (smL (smV d false) a.l b.l)) ∧ Only (fun _ => False) w1 w') := fun w1 o1 => H a.l b.l ao bo ca cb w1 S (fun j x hx => by obtain ⟨g, q, u, p1, p2, p3, p4⟩ := hea j x hx; exact ⟨g, q, u, p1, p2, o1.cell p3 (fun g => g), p4.only o1 (fun _ _ g => g)⟩) (fun j x hx => by obtain ⟨g, q, u, p1, p2, p3, p4⟩ := heb j x hx; exact ⟨g, q, u, p1, p2, o1.cell p3 (fun g => g), p4.only o1 (fun _ _ g => g)⟩) (hall a hk ho1).1 (hall b hb ho2).1 (hall a hk ho1).2 (hall b hb ho2).2
    rw [hsm]
    obtain ⟨Z, hZ⟩ : ∃ Z, Z = smL (smV d false) a.l b.l := ⟨_, rfl⟩
    obtain ⟨L, hL⟩ : ∃ L, L = a.l.length := ⟨_, rfl⟩
    obtain ⟨K, hK⟩ : ∃ K, K = b.l.length := ⟨_, rfl⟩
    rw [← hZ, ← hL, ← hK] at HE
    rw [← hZ, ← hL, ← hK]
    clear h1 h2 ho1 ho2 hk hb hea heb hsm hall hZ hL hK H
    go_enter Tryz.func125, Tryz.ntmps125
    go_wp2_with fail
    refine (show Calls Tryz.prog 151 _ _ _ from HE.out _ (by repeat' first | exact O0.out | apply Only.alloc)).mono ?_
    rintro e w1 ⟨rfl, o1⟩
    have O1 : Hid (Only (fun _ => False) w w1) := Only.trans (show Only (fun _ => False) w _ by repeat' first | exact (Only.refl _ _) | apply Only.alloc) o1 (fun _ _ g => g)
    clear HE o1
    go_wp2
    go_ret
    exact ⟨rfl, O1.out⟩
  · have hsm : smV (d + 1) false a b = false := by
      show (decide (a.k = b.k) && _) = _
      rw [decide_eq_false (by omega), Bool.false_and]
    have hbm := miss_list h2 hb (ok_ne8 ho2.1)
    rw [hsm]
    obtain ⟨L, hL⟩ : ∃ L, L = a.l.length := ⟨_, rfl⟩
    rw [← hL]
    clear h1 h2 ho1 ho2 hk hb hea hsm hL H
    go_enter Tryz.func125, Tryz.ntmps125
    go_wp2
    go_ret
    exact ⟨rfl, (by repeat' first | exact O0.out | apply Only.alloc)⟩
set_option maxRecDepth 100000 in
set_option maxHeartbeats 4000000 in
theorem same_quot (d : Nat) (H : EfV d true 152 153) (a b : Vt) (va vb : Value) (w : World) (S : Nat → Prop) (h1 : TiAt w S (d + 1) false a va) (h2 : TiAt w S (d + 1) false b vb) (ho1 : okV (d + 1) false a = true ∧ ∃ e, SmT e a) (ho2 : okV (d + 1) false b = true ∧ ∃ e, SmT e b) (hk : a.k = 5) : Calls Tryz.prog 125 #[va, vb] w fun e w' => e = .returned (.bool (smV (d + 1) false a b)) ∧ Only (fun _ => False) w w' := by
  obtain ⟨ao, ca, rfl, _, hea⟩ := ti_list h1 hk (by decide)
  have hHit := va_hit 85 51 _ Tryz.underlying85 (by intro m h; cases h)
  have hMissA := va_miss 85 81 51 _ Tryz.underlying81 (by intro m h; cases h) (by decide) _ zL
  have O0 : Hid (Only (fun _ => False) w w) := Only.refl _ _
  by_cases hb : b.k = 5
  · obtain ⟨bo, cb, rfl, _, heb⟩ := ti_list h2 hb (by decide)
    have hsm : smV (d + 1) false a b = smL (smV d true) a.l b.l := by
      show (decide (a.k = b.k) && _) = _
      rw [hk, hb]
      rfl
    have hall : ∀ t : Vt, t.k = 5 → okV (d + 1) false t = true ∧ (∃ e, SmT e t) → (∀ x ∈ t.l, okV d true x = true ∧ ∃ e, SmT e x) ∧ t.l.length ≤ 2513169434900 := by
      rintro t ht ⟨hok, e, he⟩
      have : okV (d + 1) false t = t.l.all (okV d true) := by
        show (if t.k = 4 ∨ t.k = 5 then t.l.all (okV d (decide (t.k = 5))) else alB t) = _
        rw [if_pos (by omega), ht]
        rfl
      rw [this, List.all_eq_true] at hok
      exact ⟨fun x hx => ⟨hok x hx, he.parts x hx⟩, he.len⟩
    have HE : Hid (∀ w1, Only (fun _ => False) w w1 → Calls Tryz.prog 152 #[.slice ao a.l.length ca, .slice bo b.l.length cb, .func (.func 153) #[] #[]] w1 fun e w' => e = .returned (.bool (smL (smV d true) a.l b.l)) ∧ Only (fun _ => False) w1 w') := fun w1 o1 => H a.l b.l ao bo ca cb w1 S (fun j x hx => by obtain ⟨g, q, u, p1, p2, p3, p4⟩ := hea j x hx; exact ⟨g, q, u, p1, p2, o1.cell p3 (fun g => g), p4.only o1 (fun _ _ g => g)⟩) (fun j x hx => by obtain ⟨g, q, u, p1, p2, p3, p4⟩ := heb j x hx; exact ⟨g, q, u, p1, p2, o1.cell p3 (fun g => g), p4.only o1 (fun _ _ g => g)⟩) (hall a hk ho1).1 (hall b hb ho2).1 (hall a hk ho1).2 (hall b hb ho2).2
    rw [hsm]
    obtain ⟨Z, hZ⟩ : ∃ Z, Z = smL (smV d true) a.l b.l := ⟨_, rfl⟩
    obtain ⟨L, hL⟩ : ∃ L, L = a.l.length := ⟨_, rfl⟩
    obtain ⟨K, hK⟩ : ∃ K, K = b.l.length := ⟨_, rfl⟩
    rw [← hZ, ← hL, ← hK] at HE
    rw [← hZ, ← hL, ← hK]
    clear h1 h2 ho1 ho2 hk hb hea heb hsm hall hZ hL hK H
    go_enter Tryz.func125, Tryz.ntmps125
    go_wp2_with fail
    refine (show Calls Tryz.prog 152 _ _ _ from HE.out _ (by repeat' first | exact O0.out | apply Only.alloc)).mono ?_
    rintro e w1 ⟨rfl, o1⟩
    have O1 : Hid (Only (fun _ => False) w w1) := Only.trans (show Only (fun _ => False) w _ by repeat' first | exact (Only.refl _ _) | apply Only.alloc) o1 (fun _ _ g => g)
    clear HE o1
    go_wp2
    go_ret
    exact ⟨rfl, O1.out⟩
  · have hsm : smV (d + 1) false a b = false := by
      show (decide (a.k = b.k) && _) = _
      rw [decide_eq_false (by omega), Bool.false_and]
    have hbm := miss_quot h2 hb (ok_ne8 ho2.1)
    rw [hsm]
    obtain ⟨L, hL⟩ : ∃ L, L = a.l.length := ⟨_, rfl⟩
    rw [← hL]
    clear h1 h2 ho1 ho2 hk hb hea hsm hL H
    go_enter Tryz.func125, Tryz.ntmps125
    go_wp2
    go_ret
    exact ⟨rfl, (by repeat' first | exact O0.out | apply Only.alloc)⟩
end Go.Proofs.YtbhpjakjlfkfiaaGreatDoor
