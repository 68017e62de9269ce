/- The measure of values: a list of two, a quotation of one; Check. -/
import Derived.Test.YtpphabkjnfgcmaaDoorWr7
namespace Go.Proofs.YtpphabkjnfgcmaaDoor
open Go.RowKit Go.Lib
set_option linter.unusedSimpArgs false
set_option linter.unusedVariables false
/-- an item that is not sound: Push of what is no value, or neither Push nor Call -/
def BadI (v : Value) : Prop :=
  (∃ u, v = .iface 45 (.agg #[u]) ∧ BadV u) ∨ ((∀ W : World, (Instr.typeAssert v 71 45 true).run Tryd.prog W = .ok (.tuple #[.agg #[.nilIface], .bool false]) W) ∧ (∀ W : World, (Instr.typeAssert v 71 52 true).run Tryd.prog W = .ok (.tuple #[.agg #[.string ByteArray.empty], .bool false]) W))
set_option maxRecDepth 100000 in
theorem vitem_bad (v : Value) (hv : BadI v) (M : Nat) (k d o : Int) (w : World) (h : VmB w M k d) (h1 : 0 ≤ k) (h2 : k < 900) : Calls Tryd.prog 16 #[.pointer (some ⟨M, 0, none⟩), v, .int .i64 o] w fun e w' => e = .returned (.bool false) ∧ Only (fun b => b = M) w w' := by
  rcases hv with ⟨v, rfl, hv⟩ | ⟨hp, hc⟩
  · have hP := va_hit 45 71 _ Tryd.underlying45 (by intro m h; cases h)
    have HV : Hid (∀ w1, Only (fun _ => False) w w1 → Calls Tryd.prog 9 #[.pointer (some ⟨M, 0, none⟩), v, .int .i64 o] w1 fun e w' => e = .returned (.bool false) ∧ Only (fun b => b = M) w1 w') := fun w1 o1 => vval_bad v hv M k d o w1 ((o1.block M (Array.getElem?_eq_some_iff.mp h).1 (fun g => g)).trans h) h1 (by omega)
    have O0 : Hid (Only (fun _ => False) w w) := Only.refl _ _
    have hk := hv.k
    clear h hv
    rcases hk with rfl | ⟨T, x, rfl⟩
    all_goals
     go_enter Tryd.func16, Tryd.ntmps16
     go_wp2_with fail
     refine (show Calls Tryd.prog 9 _ _ _ from HV.out _ (O0.out.alloc _)).mono ?_
     rintro e w1 ⟨rfl, o1⟩
     have O1 : Hid (Only (fun b => b = M) w w1) := ((Only.refl (fun b => b = M) w).alloc _).trans o1 (fun _ _ g => g)
     clear HV o1
     go_wp2
     go_ret
     exact ⟨rfl, O1.out⟩
  · have O0 : Hid (Only (fun b => b = M) w w) := Only.refl _ _
    clear h
    go_enter Tryd.func16, Tryd.ntmps16
    go_wp2
    all_goals
      go_ret
      refine ⟨rfl, ?_⟩
      repeat (first | exact O0.out | refine Only.alloc ?_ _)
set_option maxRecDepth 100000 in
theorem ievery_bad (v : Value) (hv : BadI v) (M g : Nat) (k d : Int) (w : World) (h : VmB w M k d) (h1 : 0 ≤ k) (h2 : k < 900) (hg0 : w.cell? ⟨g, 0, none⟩ = some v) : Calls Tryd.prog 15 #[.slice (some ⟨g, 0, none⟩) 1 1, .func (.func 16) #[.pointer (some ⟨M, 0, none⟩)] #[], .int .i64 1] w fun e w' => e = .returned (.bool false) ∧ Only (fun b => b = M) w w' := by
  have HV : Hid (Calls Tryd.prog 16 #[.pointer (some ⟨M, 0, none⟩), v, .int .i64 1] w fun e w' => e = .returned (.bool false) ∧ Only (fun b => b = M) w w') := vitem_bad v hv M k d 1 w h h1 h2
  clear h hv
  go_enter Tryd.func15, Tryd.ntmps15
  go_wp2
  go_loopw [11] (fun r wr => r = .int .i64 0 ∧ Hid (wr = w)) (fun r _ => 0)
  case atStart => exact ⟨rfl, rfl⟩
  case round =>
    obtain ⟨rfl, HW⟩ := hrel
    obtain rfl := HW.out
    go_wp2_with fail
    refine (show Calls Tryd.prog 16 _ _ _ from HV.out).mono ?_
    rintro e w2 ⟨rfl, o2⟩
    have O2 : Hid (Only (fun b => b = M) wr w2) := o2
    clear o2 HV hg0 HW
    go_wp2
    go_ret
    exact ⟨rfl, O2.out⟩
/-- a value that is not sound: no value; a list of 1 and of no value; a quotation of one bad item -/
def BadW (w : World) (x : Value) : Prop :=
  BadV x ∨ (∃ g v, x = .iface 34 (.agg #[.slice (some ⟨g, 0, none⟩) 2 2]) ∧ BadV v ∧ w.cell? ⟨g, 0, none⟩ = some i1v ∧ w.cell? ⟨g, 1, none⟩ = some v) ∨ (∃ g v, x = .iface 38 (.agg #[.slice (some ⟨g, 0, none⟩) 1 1]) ∧ BadI v ∧ w.cell? ⟨g, 0, none⟩ = some v)
theorem BadW.one {w : World} (v : Value) (h : BadV v) : BadW w v := .inl h
theorem BadW.list {w : World} (g : Nat) (v : Value) (h : BadV v) (hg0 : w.cell? ⟨g, 0, none⟩ = some i1v) (hg1 : w.cell? ⟨g, 1, none⟩ = some v) : BadW w (.iface 34 (.agg #[.slice (some ⟨g, 0, none⟩) 2 2])) := .inr (.inl ⟨g, v, rfl, h, hg0, hg1⟩)
theorem BadW.quot {w : World} (g : Nat) (v : Value) (h : BadI v) (hg0 : w.cell? ⟨g, 0, none⟩ = some v) : BadW w (.iface 38 (.agg #[.slice (some ⟨g, 0, none⟩) 1 1])) := .inr (.inr ⟨g, v, rfl, h, hg0⟩)
theorem BadI.push (v : Value) (h : BadV v) : BadI (.iface 45 (.agg #[v])) := .inl ⟨v, rfl, h⟩
set_option maxRecDepth 100000 in
theorem vval_list (M g : Nat) (v : Value) (hv : BadV v) (w : World) (h : VmB w M 0 0) (hgM : g ≠ M) (hg0 : w.cell? ⟨g, 0, none⟩ = some i1v) (hg1 : w.cell? ⟨g, 1, none⟩ = some v) : Calls Tryd.prog 9 #[.pointer (some ⟨M, 0, none⟩), .iface 34 (.agg #[.slice (some ⟨g, 0, none⟩) 2 2]), .int .i64 0] w fun e w' => e = .returned (.bool false) ∧ Only (fun b => b = M) w w' := by
  have HC : Hid (Calls Tryd.prog 12 #[.pointer (some ⟨M, 0, none⟩)] w fun e w' => e = .returned (.bool true) ∧ Only (fun b => b = M) w w' ∧ VmB w' M (0 + 1) 0) := vcount_any M 0 0 w h (by omega) (by omega)
  have HE : Hid (∀ w1 k d, VmB w1 M k d → 0 ≤ d → d ≤ 32 → Calls Tryd.prog 13 #[.pointer (some ⟨M, 0, none⟩), .int .i64 1] w1 fun e w' => e = .returned (.bool true) ∧ Only (fun b => b = M) w1 w' ∧ ∃ d', VmB w' M k d' ∧ 0 ≤ d' ∧ d' ≤ 32) := fun w1 k d => venter_any M k d w1
  have HV : Hid (∀ w1 k d, VmB w1 M k d → 0 ≤ k → k < 900 → w1.cell? ⟨g, 0, none⟩ = some i1v → w1.cell? ⟨g, 1, none⟩ = some v → Calls Tryd.prog 14 #[.slice (some ⟨g, 0, none⟩) 2 2, .func (.func 9) #[.pointer (some ⟨M, 0, none⟩)] #[], .int .i64 1] w1 fun e w' => e = .returned (.bool false) ∧ Only (fun b => b = M) w1 w') := fun w1 k d a1 a2 a3 a4 a5 => vevery_bad v hv M g k d w1 a1 a2 a3 hgM a4 a5
  have hl := va_hit 34 43 _ Tryd.underlying34 (by intro m h; cases h)
  have G : Hid (w.cell? ⟨g, 0, none⟩ = some i1v ∧ w.cell? ⟨g, 1, none⟩ = some v) := ⟨hg0, hg1⟩
  clear h hv hg0 hg1
  go_enter Tryd.func9, Tryd.ntmps9
  go_wp2_with fail
  refine (show Calls Tryd.prog 12 _ _ _ from HC.out).mono ?_
  rintro e w1 ⟨rfl, o1, m1⟩
  have O1 : Hid (Only (fun b => b = M) w w1) := o1
  have M1 : Hid (VmB w1 M (0 + 1) 0) := m1
  clear HC o1 m1
  go_wp2_with fail
  have b1 : M < w1.heap.size := (Array.getElem?_eq_some_iff.mp M1.out).1
  have m2 : VmB (w1.alloc (.cells #[.slice (some ⟨g, 0, none⟩) 2 2] 34)) M (0 + 1) 0 := (((Only.refl (fun _ => False) w1).alloc _).block M b1 (fun h => h)).trans M1.out
  have l2 : (w1.alloc (.cells #[.slice (some ⟨g, 0, none⟩) 2 2] 34)).cell? ⟨w1.heap.size, 0, none⟩ = some (.slice (some ⟨g, 0, none⟩) 2 2) := by
    exact (wr_cell (va_at w1 (.cells #[.slice (some ⟨g, 0, none⟩) 2 2] 34) _ rfl) 0).trans rfl
  refine (show Calls Tryd.prog 13 _ _ _ from HE.out _ _ _ m2 (by omega) (by omega)).mono ?_
  rintro e w3 ⟨rfl, o3, d', m3, d1, d2⟩
  have l3 := o3.cell l2 (fun h => absurd h (Nat.ne_of_gt b1))
  have o4 : Only (fun b => b = M) w w3 := (O1.out.alloc _).trans o3 (fun _ _ g => g)
  have O4 : Hid (Only (fun b => b = M) w w3) := o4
  have G4 : Hid (w3.cell? ⟨g, 0, none⟩ = some i1v ∧ w3.cell? ⟨g, 1, none⟩ = some v) := ⟨o4.cell G.out.1 (fun h => hgM h), o4.cell G.out.2 (fun h => hgM h)⟩
  have M3 : Hid (VmB w3 M (0 + 1) d') := m3
  clear HE o3 o4 O1 M1 m2 l2 m3 d1 d2 G b1
  go_wp2_with fail
  refine (show Calls Tryd.prog 14 _ _ _ from HV.out _ _ _ M3.out (by omega) (by omega) G4.out.1 G4.out.2).mono ?_
  rintro e w5 ⟨rfl, o5⟩
  have O5 : Hid (Only (fun b => b = M) w w5) := O4.out.trans o5 (fun _ _ g => g)
  clear HV o5 O4 G4 M3 l3
  go_wp2
  go_ret
  exact ⟨rfl, O5.out⟩
set_option maxRecDepth 100000 in
theorem vval_quot (M g : Nat) (v : Value) (hv : BadI v) (w : World) (h : VmB w M 0 0) (hgM : g ≠ M) (hg0 : w.cell? ⟨g, 0, none⟩ = some v) : Calls Tryd.prog 9 #[.pointer (some ⟨M, 0, none⟩), .iface 38 (.agg #[.slice (some ⟨g, 0, none⟩) 1 1]), .int .i64 0] w fun e w' => e = .returned (.bool false) ∧ Only (fun b => b = M) w w' := by
  have HC : Hid (Calls Tryd.prog 12 #[.pointer (some ⟨M, 0, none⟩)] w fun e w' => e = .returned (.bool true) ∧ Only (fun b => b = M) w w' ∧ VmB w' M (0 + 1) 0) := vcount_any M 0 0 w h (by omega) (by omega)
  have HE : Hid (∀ w1 k d, VmB w1 M k d → 0 ≤ d → d ≤ 32 → Calls Tryd.prog 13 #[.pointer (some ⟨M, 0, none⟩), .int .i64 1] w1 fun e w' => e = .returned (.bool true) ∧ Only (fun b => b = M) w1 w' ∧ ∃ d', VmB w' M k d' ∧ 0 ≤ d' ∧ d' ≤ 32) := fun w1 k d => venter_any M k d w1
  have HV : Hid (∀ w1 k d, VmB w1 M k d → 0 ≤ k → k < 900 → w1.cell? ⟨g, 0, none⟩ = some v → Calls Tryd.prog 15 #[.slice (some ⟨g, 0, none⟩) 1 1, .func (.func 16) #[.pointer (some ⟨M, 0, none⟩)] #[], .int .i64 1] w1 fun e w' => e = .returned (.bool false) ∧ Only (fun b => b = M) w1 w') := fun w1 k d a1 a2 a3 a4 => ievery_bad v hv M g k d w1 a1 a2 a3 a4
  have hl := va_miss 38 34 43 _ Tryd.underlying34 (by intro m h; cases h) (by decide) (.agg #[.slice none 0 0]) (fun _ => rfl)
  have hq := va_hit 38 43 _ Tryd.underlying38 (by intro m h; cases h)
  have G : Hid (w.cell? ⟨g, 0, none⟩ = some v) := hg0
  clear h hv hg0
  go_enter Tryd.func9, Tryd.ntmps9
  go_wp2_with fail
  refine (show Calls Tryd.prog 12 _ _ _ from HC.out).mono ?_
  rintro e w1 ⟨rfl, o1, m1⟩
  have O1 : Hid (Only (fun b => b = M) w w1) := o1
  have M1 : Hid (VmB w1 M (0 + 1) 0) := m1
  clear HC o1 m1
  go_wp2_with fail
  have b0 : M < w1.heap.size := (Array.getElem?_eq_some_iff.mp M1.out).1
  obtain ⟨w1q, ew⟩ : ∃ w1q, w1q = w1.alloc (.cells #[.slice none 0 0] 34) := ⟨_, rfl⟩
  rw [← ew]
  have O1q : Hid (Only (fun b => b = M) w w1q) := ew ▸ O1.out.alloc _
  have M1q : Hid (VmB w1q M (0 + 1) 0) := ew ▸ (((Only.refl (fun _ => False) w1).alloc _).block M b0 (fun h => h)).trans M1.out
  have b1 : M < w1q.heap.size := (Array.getElem?_eq_some_iff.mp M1q.out).1
  have m2 : VmB (w1q.alloc (.cells #[.slice (some ⟨g, 0, none⟩) 1 1] 38)) M (0 + 1) 0 := (((Only.refl (fun _ => False) w1q).alloc _).block M b1 (fun h => h)).trans M1q.out
  have l2 : (w1q.alloc (.cells #[.slice (some ⟨g, 0, none⟩) 1 1] 38)).cell? ⟨w1q.heap.size, 0, none⟩ = some (.slice (some ⟨g, 0, none⟩) 1 1) := by
    exact (wr_cell (va_at w1q (.cells #[.slice (some ⟨g, 0, none⟩) 1 1] 38) _ rfl) 0).trans rfl
  refine (show Calls Tryd.prog 13 _ _ _ from HE.out _ _ _ m2 (by omega) (by omega)).mono ?_
  rintro e w3 ⟨rfl, o3, d', m3, d1, d2⟩
  have l3 := o3.cell l2 (fun h => absurd h (Nat.ne_of_gt b1))
  have ez : w1q.heap.size = w1.heap.size + 1 := ew ▸ Array.size_push ..
  rw [ez] at l3
  have o4 : Only (fun b => b = M) w w3 := (O1q.out.alloc _).trans o3 (fun _ _ g => g)
  have O4 : Hid (Only (fun b => b = M) w w3) := o4
  have G4 : Hid (w3.cell? ⟨g, 0, none⟩ = some v) := o4.cell G.out (fun h => hgM h)
  have M3 : Hid (VmB w3 M (0 + 1) d') := m3
  clear HE o3 o4 O1q M1q O1 M1 ez ew b0 m2 l2 m3 d1 d2 G b1
  go_wp2_with fail
  refine (show Calls Tryd.prog 15 _ _ _ from HV.out _ _ _ M3.out (by omega) (by omega) G4.out).mono ?_
  rintro e w5 ⟨rfl, o5⟩
  have O5 : Hid (Only (fun b => b = M) w w5) := O4.out.trans o5 (fun _ _ g => g)
  clear HV o5 O4 G4 M3 l3
  go_wp2
  go_ret
  exact ⟨rfl, O5.out⟩
end Go.Proofs.YtpphabkjnfgcmaaDoor
