/- parse's writer: words, and the whole text. -/
import Derived.Test.YtpphabkjnfgcmaaDoorWr2
namespace Go.Proofs.YtpphabkjnfgcmaaDoor
open Go.RowKit Go.Lib
set_option linter.unusedSimpArgs false
set_option linter.unusedVariables false
set_option maxHeartbeats 2000000 in
set_option maxRecDepth 100000 in
/-- the text, if there is one -/
theorem wstring_any (B b : Nat) (l : List UInt8) (bg : Bool) (w : World) (h : WrU B b (Lib.byteCells l) bg w) (h0 : l ≠ []) :
    Calls Tryd.prog 20 #[.pointer (some ⟨b, 0, none⟩)] w fun e w' => e = .returned (.string ⟨l.toArray⟩) ∧ Below B w w' := by
  obtain ⟨hB, p, v, hbk, hp, hown, hne⟩ := h
  have hl0 : l.length ≠ 0 := by simpa using h0
  rw [Lib.byteCells_length] at hown
  obtain ⟨g, cap, cur, fz, rfl, hbg, hg, hfz, hnc, hcm, hcs, htake⟩ : ∃ g cap cur fz, v = .slice (some ⟨g, 0, none⟩) l.length cap ∧ B ≤ g ∧ w.heap[g]? = some (.cells cur 5 fz) ∧ fz.2 ≤ l.length * 1 ∧ l.length ≤ cap ∧ cap ≤ maxLen ∧ cur.size = cap * 1 ∧ cur.toList.take (l.length * 1) = Lib.byteCells l := by
    rcases hown.2 with ⟨_, hz⟩ | ⟨g, cap, cur, fz, hv, r⟩
    · exact absurd hz hl0
    · exact ⟨g, cap, cur, fz, hv, r⟩
  have hbk' : w.drew.heap[b]? = some (.cells #[p, .slice (some ⟨g, 0, none⟩) l.length cap, .bool bg] 107) := hbk
  have c1 := wr_cell hbk' 1
  simp only [List.getElem?_toArray, List.getElem?_cons_zero, List.getElem?_cons_succ] at c1
  have hSD : (Builtin.unsafeSliceData_ #[75] 94 #[.slice (some ⟨g, 0, none⟩) l.length cap]).run Tryd.prog w.drew = .ok (.pointer (some ⟨g, 0, none⟩)) w.drew :=
    run_unsafeSliceData_row _ _ _ _ _ _ (by omega)
  have hUS : (Builtin.unsafeString_ #[94, 3] 9 #[.pointer (some ⟨g, 0, none⟩), .int .i64 l.length]).run Tryd.prog w.drew = .ok (.string ⟨l.toArray⟩) (w.drew.freeze ⟨g, 0, none⟩ l.length) := by
    refine run_unsafeString_row w.drew 94 3 9 5 Tryd.underlying94 (by kernel_rfl) g cur.size (by have hg' : w.drew.heap[g]? = some (.cells cur 5 fz) := hg; simp [World.shape?, hg']) l h0 (by omega) (by unfold maxLen at hcm; omega) ?_
    intro j x hx
    have := hown.cells (g := g) rfl j (.int .u8 x.toNat) (by simp [Lib.byteCells, hx])
    exact this
  go_enter Tryd.func20, Tryd.ntmps20
  go_wp2
  go_region
  all_goals (go_wp2; go_ret; exact ⟨rfl, below_freeze (Below.drew (Below.refl B w)) (p := ⟨g, 0, none⟩) hbg _⟩)
set_option maxRecDepth 100000 in
theorem wwhole_any (B b : Nat) (l : List UInt8) (bg : Bool) (w : World) (h : WrU B b (Lib.byteCells l) bg w) (h0 : l ≠ []) (h1 : l.length ≤ 65536) :
    Calls Tryd.prog 33 #[.pointer (some ⟨b, 0, none⟩)] w fun e w' => e = .returned (.tuple #[.string ⟨l.toArray⟩, .int .i64 0]) ∧ Below B w w' := by
  have HF : Hid (Calls Tryd.prog 36 #[.pointer (some ⟨b, 0, none⟩)] w fun e w' => e = .returned (.bool false) ∧ w' = w) := by
    have := wfull_any B b _ bg w h
    rwa [show decide (65536 < ((Lib.byteCells l).length : Int)) = false by rw [Lib.byteCells_length]; simp; omega] at this
  have HS : Hid (Calls Tryd.prog 20 #[.pointer (some ⟨b, 0, none⟩)] w fun e w' => e = .returned (.string ⟨l.toArray⟩) ∧ Below B w w') := wstring_any B b l bg w h h0
  clear h h0 h1
  go_enter Tryd.func33, Tryd.ntmps33
  go_wp2_with fail
  refine (show Calls Tryd.prog 36 _ _ _ from HF.out).mono ?_
  rintro e w1 ⟨rfl, rfl⟩
  clear HF
  go_wp2_with fail
  refine (show Calls Tryd.prog 20 _ _ _ from HS.out).mono ?_
  rintro e w2 ⟨rfl, b2⟩
  have B2 : Hid (Below B w1 w2) := b2
  clear HS b2
  go_wp2
  go_ret2
  exact ⟨rfl, B2.out⟩
theorem WrU.begun {B b : Nat} {bs : List Value} {bg : Bool} {w : World} (h : WrU B b bs bg w) (y : Bool) : WrU B b bs y (w.setCell ⟨b, 2, none⟩ (.bool y)) ∧ Only (fun k => k = b) w (w.setCell ⟨b, 2, none⟩ (.bool y)) := by
  obtain ⟨h1, p, v, h2, h3, h4, h5⟩ := h
  have o : Only (fun k => k = b) w (w.setCell ⟨b, 2, none⟩ (.bool y)) := (Only.refl (fun k => k = b) w).setCell _ _ (fun _ => rfl)
  exact ⟨⟨h1, p, v, (heap_setCell_same _ _ _ _ _ _ h2).trans rfl, h3, ownsF_keep h4 o (fun k hk e => h5 (by rw [hk, e])), h5⟩, o⟩
set_option maxRecDepth 100000 in
/-- the first word on a line -/
theorem wword_first (B b : Nat) (bs : List Value) (s : ByteArray) (w : World) (h : WrU B b bs false w) (hf : bs.length ≤ 65536) (hs : s.size ≤ 1000000) (hBw : B ≤ w.heap.size) :
    Calls Tryd.prog 39 #[.pointer (some ⟨b, 0, none⟩), .string s] w fun e w' => e = .returned (.tuple #[]) ∧ Hid (WrU B b (bs ++ strCells s) true w' ∧ Only (fun k => B ≤ k) w w') := by
  have HA : Hid (Calls Tryd.prog 47 #[.pointer (some ⟨b, 0, none⟩), .string s] w fun e w' => e = .returned (.tuple #[]) ∧ Hid (WrU B b (bs ++ strCells s) false w' ∧ Only (fun k => B ≤ k) w w')) := wadd_any B b bs false s w h hf hs hBw
  obtain ⟨hB, p, v, hbk, _, _, _⟩ := h
  have c2 := wr_cell hbk 2
  simp only [List.getElem?_toArray, List.getElem?_cons_zero, List.getElem?_cons_succ] at c2
  have HB : Hid (B ≤ b) := hB
  clear hbk hf hs hBw hB
  go_enter Tryd.func39, Tryd.ntmps39
  go_wp2_with fail
  refine (show Calls Tryd.prog 47 _ _ _ from HA.out).mono ?_
  rintro e w1 ⟨rfl, g1⟩
  obtain ⟨_, p1, v1, hb1, _, _, _⟩ := id g1.out.1
  have d2 := wr_cell hb1 2
  have f2 := wr_froz hb1 2
  simp only [List.getElem?_toArray, List.getElem?_cons_zero, List.getElem?_cons_succ] at d2
  clear HA c2 hb1
  go_wp2
  go_end0
  obtain ⟨q1, q2⟩ := g1.out.1.begun true
  exact ⟨rfl, q1, g1.out.2.trans q2 (fun k hk e => by have : B ≤ b := HB.out; omega)⟩
end Go.Proofs.YtpphabkjnfgcmaaDoor
