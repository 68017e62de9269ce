/- parse's writer: words, and the whole text. The text of the number 7, as parse writes it. The text of the number 7. A call of a name: is there such a name? parse.Text of it, and value's callable. The measure of values: the parts that ValuePointers reaches. The numbers by which the library's contract on utf8.ValidString stands over this program. How large a value is, and whether it is sound: the plain functions, and the leaves. soundAlone: of each kind that holds no others. -/
import Derived.Test.YtllpacppedobjaaGreatDoorHac
import Derived.Test.YtllpacppedobjaaGreatDoorHab
import Derived.Shelf.Unicode.ValidAny
import Derived.Test.YtllpacppedobjaaGreatDoorProg
import Derived.Test.YtllpacppedobjaaGreatDoorHaa
namespace Go.Proofs.YtllpacppedobjaaGreatDoor
open Go.RowKit Go.Lib
set_option linter.unusedSimpArgs false
set_option linter.unusedVariables false
set_option maxHeartbeats 2000000 in
set_option maxRecDepth 100000 in
/-- the text, if there is one -/
theorem wstring_any (B b : Nat) (l : List UInt8) (bg : Bool) (w : World) (h : WrU B b (Lib.byteCells l) bg w) (h0 : l ≠ []) :
    Calls Tryz.prog 47 #[.pointer (some ⟨b, 0, none⟩)] w fun e w' => e = .returned (.string ⟨l.toArray⟩) ∧ Below B w w' := by
  obtain ⟨hB, p, v, hbk, hp, hown, hne⟩ := h
  have hl0 : l.length ≠ 0 := by simpa using h0
  rw [Lib.byteCells_length] at hown
  obtain ⟨g, cap, cur, fz, rfl, hbg, hg, hfz, hnc, hcm, hcs, htake⟩ : ∃ g cap cur fz, v = .slice (some ⟨g, 0, none⟩) l.length cap ∧ B ≤ g ∧ w.heap[g]? = some (.cells cur 5 fz) ∧ fz.2 ≤ l.length * 1 ∧ l.length ≤ cap ∧ cap ≤ maxLen ∧ cur.size = cap * 1 ∧ cur.toList.take (l.length * 1) = Lib.byteCells l := by
    rcases hown.2 with ⟨_, hz⟩ | ⟨g, cap, cur, fz, hv, r⟩
    · exact absurd hz hl0
    · exact ⟨g, cap, cur, fz, hv, r⟩
  have hbk' : w.drew.heap[b]? = some (.cells #[p, .slice (some ⟨g, 0, none⟩) l.length cap, .bool bg] 155) := hbk
  have c1 := wr_cell hbk' 1
  simp only [List.getElem?_toArray, List.getElem?_cons_zero, List.getElem?_cons_succ] at c1
  have hSD : (Builtin.unsafeSliceData_ #[105] 138 #[.slice (some ⟨g, 0, none⟩) l.length cap]).run Tryz.prog w.drew = .ok (.pointer (some ⟨g, 0, none⟩)) w.drew :=
    run_unsafeSliceData_row _ _ _ _ _ _ (by omega)
  have hUS : (Builtin.unsafeString_ #[138, 3] 9 #[.pointer (some ⟨g, 0, none⟩), .int .i64 l.length]).run Tryz.prog w.drew = .ok (.string ⟨l.toArray⟩) (w.drew.freeze ⟨g, 0, none⟩ l.length) := by
    refine run_unsafeString_row w.drew 138 3 9 5 Tryz.underlying138 (by kernel_rfl) g cur.size (by have hg' : w.drew.heap[g]? = some (.cells cur 5 fz) := hg; simp [World.shape?, hg']) l h0 (by omega) (by unfold maxLen at hcm; omega) ?_
    intro j x hx
    have := hown.cells (g := g) rfl j (.int .u8 x.toNat) (by simp [Lib.byteCells, hx])
    exact this
  go_enter Tryz.func47, Tryz.ntmps47
  go_wp2
  go_region
  all_goals (go_wp2; go_ret; exact ⟨rfl, below_freeze (Below.drew (Below.refl B w)) (p := ⟨g, 0, none⟩) hbg _⟩)
set_option maxRecDepth 100000 in
theorem wwhole_any (B b : Nat) (l : List UInt8) (bg : Bool) (w : World) (h : WrU B b (Lib.byteCells l) bg w) (h0 : l ≠ []) (h1 : l.length ≤ 65536) :
    Calls Tryz.prog 81 #[.pointer (some ⟨b, 0, none⟩)] w fun e w' => e = .returned (.tuple #[.string ⟨l.toArray⟩, .int .i64 0]) ∧ Below B w w' := by
  have HF : Hid (Calls Tryz.prog 86 #[.pointer (some ⟨b, 0, none⟩)] w fun e w' => e = .returned (.bool false) ∧ w' = w) := by
    have := wfull_any B b _ bg w h
    rwa [show decide (65536 < ((Lib.byteCells l).length : Int)) = false by rw [Lib.byteCells_length]; simp; omega] at this
  have HS : Hid (Calls Tryz.prog 47 #[.pointer (some ⟨b, 0, none⟩)] w fun e w' => e = .returned (.string ⟨l.toArray⟩) ∧ Below B w w') := wstring_any B b l bg w h h0
  clear h h0 h1
  go_enter Tryz.func81, Tryz.ntmps81
  go_wp2_with fail
  refine (show Calls Tryz.prog 86 _ _ _ from HF.out).mono ?_
  rintro e w1 ⟨rfl, rfl⟩
  clear HF
  go_wp2_with fail
  refine (show Calls Tryz.prog 47 _ _ _ from HS.out).mono ?_
  rintro e w2 ⟨rfl, b2⟩
  have B2 : Hid (Below B w1 w2) := b2
  clear HS b2
  go_wp2
  go_ret2
  exact ⟨rfl, B2.out⟩
theorem WrU.begun {B b : Nat} {bs : List Value} {bg : Bool} {w : World} (h : WrU B b bs bg w) (y : Bool) : WrU B b bs y (w.setCell ⟨b, 2, none⟩ (.bool y)) ∧ Only (fun k => k = b) w (w.setCell ⟨b, 2, none⟩ (.bool y)) := by
  obtain ⟨h1, p, v, h2, h3, h4, h5⟩ := h
  have o : Only (fun k => k = b) w (w.setCell ⟨b, 2, none⟩ (.bool y)) := (Only.refl (fun k => k = b) w).setCell _ _ (fun _ => rfl)
  exact ⟨⟨h1, p, v, (heap_setCell_same _ _ _ _ _ _ h2).trans rfl, h3, ownsF_keep h4 o (fun k hk e => h5 (by rw [hk, e])), h5⟩, o⟩
set_option maxRecDepth 100000 in
/-- the first word on a line -/
theorem wword_first (B b : Nat) (bs : List Value) (s : ByteArray) (w : World) (h : WrU B b bs false w) (hf : bs.length ≤ 65536) (hs : s.size ≤ 1000000) (hBw : B ≤ w.heap.size) :
    Calls Tryz.prog 89 #[.pointer (some ⟨b, 0, none⟩), .string s] w fun e w' => e = .returned (.tuple #[]) ∧ Hid (WrU B b (bs ++ strCells s) true w' ∧ Only (fun k => B ≤ k) w w') := by
  have HA : Hid (Calls Tryz.prog 97 #[.pointer (some ⟨b, 0, none⟩), .string s] w fun e w' => e = .returned (.tuple #[]) ∧ Hid (WrU B b (bs ++ strCells s) false w' ∧ Only (fun k => B ≤ k) w w')) := wadd_any B b bs false s w h hf hs hBw
  obtain ⟨hB, p, v, hbk, _, _, _⟩ := h
  have c2 := wr_cell hbk 2
  simp only [List.getElem?_toArray, List.getElem?_cons_zero, List.getElem?_cons_succ] at c2
  have HB : Hid (B ≤ b) := hB
  clear hbk hf hs hBw hB
  go_enter Tryz.func89, Tryz.ntmps89
  go_wp2_with fail
  refine (show Calls Tryz.prog 97 _ _ _ from HA.out).mono ?_
  rintro e w1 ⟨rfl, g1⟩
  obtain ⟨_, p1, v1, hb1, _, _, _⟩ := id g1.out.1
  have d2 := wr_cell hb1 2
  have f2 := wr_froz hb1 2
  simp only [List.getElem?_toArray, List.getElem?_cons_zero, List.getElem?_cons_succ] at d2
  clear HA c2 hb1
  go_wp2
  go_end0
  obtain ⟨q1, q2⟩ := g1.out.1.begun true
  exact ⟨rfl, q1, g1.out.2.trans q2 (fun k hk e => by have : B ≤ b := HB.out; omega)⟩
end Go.Proofs.YtllpacppedobjaaGreatDoor
namespace Go.Proofs.YtllpacppedobjaaGreatDoor
open Go.RowKit Go.Lib
set_option linter.unusedSimpArgs false
set_option linter.unusedVariables false
theorem va_hit (T xt : TypeId) (D : TypeDesc) (hD : Tryz.prog.underlying T = some D) (hn : ∀ m, D ≠ .interface m) (x : Value) (W : World) : (Instr.typeAssert (.iface T x) xt T true).run Tryz.prog W = .ok (.tuple #[x, .bool true]) W := by
  simp only [Instr.typeAssert, Sem.run_bind, run_underlying hD, Result.andThen_ok]
  cases D <;> simp_all
theorem va_miss (T U xt : TypeId) (D : TypeDesc) (hD : Tryz.prog.underlying U = some D) (hn : ∀ m, D ≠ .interface m) (hT : T ≠ U) (z : Value) (hz : ∀ W : World, (zeroValue U).run Tryz.prog W = .ok z W) (x : Value) (W : World) : (Instr.typeAssert (.iface T x) xt U true).run Tryz.prog W = .ok (.tuple #[z, .bool false]) W := by
  simp only [Instr.typeAssert, Sem.run_bind, run_underlying hD, Result.andThen_ok]
  cases D <;> simp_all
theorem va_at (W : World) (o : Obj) (n : Nat) (h : n = W.heap.size) : (W.alloc o).heap[n]? = some o := by
  subst h
  exact Array.getElem?_push_size ..
/-- the number 7 as a value, and as an item -/
abbrev i7 : Value := .iface 63 (.agg #[.int .i64 7])
abbrev p7 : Value := .iface 99 (.agg #[i7])
set_option maxRecDepth 100000 in
theorem small7 (w : World) : Calls Tryz.prog 107 #[.int .i64 7] w fun e w' => e = .returned (.string ⟨#[55]⟩) ∧ w' = w := by
  go_enter Tryz.func107, Tryz.ntmps107
  go_wp2
  go_ret
  exact ⟨rfl, rfl⟩
set_option maxRecDepth 100000 in
theorem ifmt7 (w : World) : Calls Tryz.prog 102 #[.int .i64 7, .int .i64 10] w fun e w' => e = .returned (.string ⟨#[55]⟩) ∧ w' = w := by
  have HS : Hid (∀ w1, Calls Tryz.prog 107 #[.int .i64 7] w1 fun e w' => e = .returned (.string ⟨#[55]⟩) ∧ w' = w1) := small7
  go_enter Tryz.func102, Tryz.ntmps102
  go_wp2_with fail
  refine (show Calls Tryz.prog 107 _ _ _ from HS.out _).mono ?_
  rintro e w1 ⟨rfl, rfl⟩
  clear HS
  go_wp2
  go_ret
  exact ⟨rfl, rfl⟩
set_option maxRecDepth 100000 in
theorem fmt7 (w : World) : Calls Tryz.prog 94 #[.int .i64 7, .int .i64 10] w fun e w' => e = .returned (.string ⟨#[55]⟩) ∧ w' = w := by
  have HS : Hid (∀ w1, Calls Tryz.prog 102 #[.int .i64 7, .int .i64 10] w1 fun e w' => e = .returned (.string ⟨#[55]⟩) ∧ w' = w1) := ifmt7
  go_enter Tryz.func94, Tryz.ntmps94
  go_wp2_with fail
  refine (show Calls Tryz.prog 102 _ _ _ from HS.out _).mono ?_
  rintro e w1 ⟨rfl, rfl⟩
  clear HS
  go_wp2
  go_ret
  exact ⟨rfl, rfl⟩
/-- what is left to be counted -/
def MlB (w : World) (M : Nat) (k : Int) : Prop := w.heap[M]? = some (.cells #[.int .i64 k] 169)
set_option maxRecDepth 100000 in
theorem pmore_any (M : Nat) (k : Int) (w : World) (h : MlB w M k) (h1 : 1 ≤ k) (h2 : k ≤ 1024) : Calls Tryz.prog 92 #[.pointer (some ⟨M, 0, none⟩)] w fun e w' => e = .returned (.bool true) ∧ Only (fun b => b = M) w w' ∧ MlB w' M (k - 1) := by
  have c0 := wr_cell h 0
  have f0 := wr_froz h 0
  simp only [List.getElem?_toArray, List.getElem?_cons_zero] at c0
  have HM : Hid (MlB w M k) := h
  have i1 : (0 : Int) ≤ k - 1 := by omega
  clear h
  go_enter Tryz.func92, Tryz.ntmps92
  go_wp2
  go_ret
  exact ⟨by simp [i1], (Only.refl (fun b => b = M) w).setCell _ _ (fun _ => rfl), (heap_setCell_same _ _ _ _ _ _ HM.out).trans rfl⟩
set_option maxRecDepth 100000 in
theorem pval7 (M : Nat) (w : World) (h : MlB w M 1024) : Calls Tryz.prog 91 #[.pointer (some ⟨M, 0, none⟩), i7, .int .i64 32] w fun e w' => e = .returned (.bool true) ∧ Only (fun b => b = M) w w' := by
  have HM : Hid (Calls Tryz.prog 92 #[.pointer (some ⟨M, 0, none⟩)] w fun e w' => e = .returned (.bool true) ∧ Only (fun b => b = M) w w' ∧ MlB w' M (1024 - 1)) := pmore_any M 1024 w h (by omega) (by omega)
  have hInt := va_hit 63 27 _ Tryz.underlying63 (by intro m h; cases h)
  clear h
  go_enter Tryz.func91, Tryz.ntmps91
  go_wp2_with fail
  refine (show Calls Tryz.prog 92 _ _ _ from HM.out).mono ?_
  rintro e w1 ⟨rfl, o1, _⟩
  have O1 : Hid (Only (fun b => b = M) w w1) := o1
  clear HM o1
  go_wp2
  all_goals
    go_ret
    exact ⟨rfl, O1.out.alloc _⟩
set_option maxRecDepth 100000 in
theorem pitem7 (M : Nat) (w : World) (h : MlB w M 1024) : Calls Tryz.prog 87 #[.pointer (some ⟨M, 0, none⟩), p7, .int .i64 32] w fun e w' => e = .returned (.bool true) ∧ Only (fun b => b = M) w w' := by
  have HV : Hid (∀ w1, Only (fun _ => False) w w1 → Calls Tryz.prog 91 #[.pointer (some ⟨M, 0, none⟩), i7, .int .i64 32] w1 fun e w' => e = .returned (.bool true) ∧ Only (fun b => b = M) w1 w') := fun w1 o => pval7 M w1 ((o.block M (Array.getElem?_eq_some_iff.1 h).1 (fun g => g)).trans h)
  have hP := va_hit 99 86 _ Tryz.underlying99 (by intro m h; cases h)
  have O0 : Hid (Only (fun _ => False) w w) := Only.refl _ _
  clear h
  go_enter Tryz.func87, Tryz.ntmps87
  go_wp2_with fail
  refine (show Calls Tryz.prog 91 _ _ _ from HV.out _ (O0.out.alloc _)).mono ?_
  rintro e w1 ⟨rfl, o1⟩
  have O1 : Hid (Only (fun b => b = M) w w1) := ((Only.refl (fun b => b = M) w).alloc _).trans o1 (fun _ _ g => g)
  clear HV o1
  go_wp2
  go_ret
  exact ⟨rfl, O1.out⟩
set_option maxRecDepth 100000 in
theorem psound7 (w : World) : Calls Tryz.prog 84 #[p7] w fun e w' => e = .returned (.bool true) ∧ Only (fun _ => False) w w' := by
  have HI : Hid (Calls Tryz.prog 87 #[.pointer (some ⟨w.heap.size, 0, none⟩), p7, .int .i64 32] (w.alloc (.cells #[.int .i64 1024] 169)) fun e w' => e = .returned (.bool true) ∧ Only (fun b => b = w.heap.size) (w.alloc (.cells #[.int .i64 1024] 169)) w') := pitem7 _ _ (va_at _ _ _ rfl)
  go_enter Tryz.func84, Tryz.ntmps84
  go_wp2_with fail
  refine (show Calls Tryz.prog 87 _ _ _ from HI.out).mono ?_
  rintro e w1 ⟨rfl, o1⟩
  have O1 : Hid (Only (fun _ => False) w w1) := ((Only.refl (fun _ => False) w).alloc _).trans o1 (fun k hk e => by omega)
  clear HI o1
  go_wp2
  go_ret
  exact ⟨rfl, O1.out⟩
set_option maxRecDepth 100000 in
theorem psounds7 (w : World) (g : Nat) (hg : w.cell? ⟨g, 0, none⟩ = some p7) : Calls Tryz.prog 79 #[.slice (some ⟨g, 0, none⟩) 1 1] w fun e w' => e = .returned (.bool true) ∧ Only (fun _ => False) w w' := by
  have HI : Hid (∀ w1, Calls Tryz.prog 84 #[p7] w1 fun e w' => e = .returned (.bool true) ∧ Only (fun _ => False) w1 w') := psound7
  go_enter Tryz.func79, Tryz.ntmps79
  go_wp2
  go_loopw [7] (fun r wr => ∃ i : Int, r = .int .i64 i ∧ (i = 0 ∨ i = 1) ∧ Hid (Only (fun _ => False) w wr)) (fun r _ => 1 - uOf r)
  case atStart => exact ⟨0, rfl, .inl rfl, Only.refl _ _⟩
  case round =>
    obtain ⟨i, rfl, hi, HO⟩ := hrel
    obtain ⟨w1, rfl⟩ : ∃ w1, w1 = wr := ⟨_, rfl⟩
    rcases hi with rfl | rfl
    · have hg1 := HO.out.cell hg (fun h => h)
      go_wp2_with fail
      refine (show Calls Tryz.prog 84 _ _ _ from HI.out _).mono ?_
      rintro e w2 ⟨rfl, o2⟩
      have O2 : Hid (Only (fun _ => False) w w2) := HO.out.trans o2 (fun _ _ g => g)
      clear HI o2 hg1 HO
      go_wp2
      go_roundw
      case rel => exact ⟨1, rfl, .inr rfl, O2⟩
      case measure => simp [uOf]
    · go_wp2
      go_ret
      exact ⟨rfl, HO.out⟩
end Go.Proofs.YtllpacppedobjaaGreatDoor
namespace Go.Proofs.YtllpacppedobjaaGreatDoor
open Go.RowKit Go.Lib
set_option linter.unusedSimpArgs false
set_option linter.unusedVariables false
theorem WrU.alloc {B b : Nat} {bs : List Value} {bg : Bool} {w : World} (h : WrU B b bs bg w) (o : Obj) : WrU B b bs bg (w.alloc o) := h.only ((Only.refl _ w).alloc _)
set_option maxRecDepth 100000 in
theorem wval7 (B b : Nat) (w : World) (h : WrU B b [] false w) (hBw : B ≤ w.heap.size) : Calls Tryz.prog 88 #[.pointer (some ⟨b, 0, none⟩), i7] w fun e w' => e = .returned (.tuple #[]) ∧ Hid (WrU B b (Lib.byteCells [55]) true w' ∧ Only (fun k => B ≤ k) w w') := by
  have HF : Hid (Calls Tryz.prog 86 #[.pointer (some ⟨b, 0, none⟩)] w fun e w' => e = .returned (.bool false) ∧ w' = w) := by
    have := wfull_any B b _ false w h
    rwa [show decide (65536 < (([] : List Value).length : Int)) = false by simp] at this
  have HI : Hid (∀ w1, Calls Tryz.prog 94 #[.int .i64 7, .int .i64 10] w1 fun e w' => e = .returned (.string ⟨#[55]⟩) ∧ w' = w1) := fmt7
  have HW : Hid (Calls Tryz.prog 89 #[.pointer (some ⟨b, 0, none⟩), .string ⟨#[55]⟩] (w.alloc (.cells #[.int .i64 7] 63)) fun e w' => e = .returned (.tuple #[]) ∧ Hid (WrU B b (Lib.byteCells [55]) true w' ∧ Only (fun k => B ≤ k) (w.alloc (.cells #[.int .i64 7] 63)) w')) := (wword_first B b [] ⟨#[55]⟩ _ (h.alloc _) (by simp) (by decide) (by simp; omega)).mono fun e w' g => ⟨g.1, by simpa [strCells, Lib.byteCells] using g.2.out.1, g.2.out.2⟩
  have hInt := va_hit 63 27 _ Tryz.underlying63 (by intro m h; cases h)
  have O0 : Hid (Only (fun k => B ≤ k) w (w.alloc (.cells #[.int .i64 7] 63))) := (Only.refl (fun k => B ≤ k) w).alloc _
  clear h hBw
  go_enter Tryz.func88, Tryz.ntmps88
  go_wp2_with fail
  refine (show Calls Tryz.prog 86 _ _ _ from HF.out).mono ?_
  rintro e w1 ⟨rfl, rfl⟩
  clear HF
  go_wp2_with fail
  refine (show Calls Tryz.prog 94 _ _ _ from HI.out _).mono ?_
  rintro e w2 ⟨rfl, rfl⟩
  clear HI
  go_wp2_with fail
  refine (show Calls Tryz.prog 89 _ _ _ from HW.out).mono ?_
  rintro e w3 ⟨rfl, g3⟩
  clear HW
  go_wp2
  go_end0
  exact ⟨rfl, g3.out.1, O0.out.trans g3.out.2 (fun _ _ g => g)⟩
set_option maxRecDepth 100000 in
theorem witem7 (B b : Nat) (w : World) (h : WrU B b [] false w) (hBw : B ≤ w.heap.size) : Calls Tryz.prog 85 #[.pointer (some ⟨b, 0, none⟩), p7] w fun e w' => e = .returned (.tuple #[]) ∧ Hid (WrU B b (Lib.byteCells [55]) true w' ∧ Only (fun k => B ≤ k) w w') := by
  have HV : Hid (Calls Tryz.prog 88 #[.pointer (some ⟨b, 0, none⟩), i7] (w.alloc (.cells #[i7] 99)) fun e w' => e = .returned (.tuple #[]) ∧ Hid (WrU B b (Lib.byteCells [55]) true w' ∧ Only (fun k => B ≤ k) (w.alloc (.cells #[i7] 99)) w')) := wval7 B b _ (h.alloc _) (by simp; omega)
  have hP := va_hit 99 86 _ Tryz.underlying99 (by intro m h; cases h)
  have O0 : Hid (Only (fun k => B ≤ k) w (w.alloc (.cells #[i7] 99))) := (Only.refl (fun k => B ≤ k) w).alloc _
  clear h hBw
  go_enter Tryz.func85, Tryz.ntmps85
  go_wp2_with fail
  refine (show Calls Tryz.prog 88 _ _ _ from HV.out).mono ?_
  rintro e w1 ⟨rfl, g1⟩
  clear HV
  go_wp2
  go_end0
  exact ⟨rfl, g1.out.1, O0.out.trans g1.out.2 (fun _ _ g => g)⟩
set_option maxRecDepth 100000 in
theorem witems7 (B b g : Nat) (w : World) (h : WrU B b [] false w) (hBw : B ≤ w.heap.size) (hg : w.cell? ⟨g, 0, none⟩ = some p7) : Calls Tryz.prog 80 #[.pointer (some ⟨b, 0, none⟩), .slice (some ⟨g, 0, none⟩) 1 1] w fun e w' => e = .returned (.tuple #[]) ∧ Hid (WrU B b (Lib.byteCells [55]) true w' ∧ Only (fun k => B ≤ k) w w') := by
  have HI : Hid (Calls Tryz.prog 85 #[.pointer (some ⟨b, 0, none⟩), p7] w fun e w' => e = .returned (.tuple #[]) ∧ Hid (WrU B b (Lib.byteCells [55]) true w' ∧ Only (fun k => B ≤ k) w w')) := witem7 B b w h hBw
  clear h hBw
  go_enter Tryz.func80, Tryz.ntmps80
  go_wp2
  go_loopw [8] (fun r wr => (r = .int .i64 0 ∧ wr = w) ∨ (r = .int .i64 1 ∧ Hid (WrU B b (Lib.byteCells [55]) true wr ∧ Only (fun k => B ≤ k) w wr))) (fun r _ => 1 - uOf r)
  case atStart => exact .inl ⟨rfl, rfl⟩
  case round =>
    rcases hrel with ⟨rfl, rfl⟩ | ⟨rfl, HO⟩
    · go_wp2_with fail
      refine (show Calls Tryz.prog 85 _ _ _ from HI.out).mono ?_
      rintro e w2 ⟨rfl, g2⟩
      clear HI hg
      go_wp2
      go_roundw
      case rel => exact .inr ⟨rfl, g2⟩
      case measure => simp [uOf]
    · obtain ⟨w1, rfl⟩ : ∃ w1, w1 = wr := ⟨_, rfl⟩
      go_wp2
      go_end0
      exact ⟨rfl, HO⟩
set_option maxRecDepth 100000 in
theorem text7 (g : Nat) (w : World) (hg : w.cell? ⟨g, 0, none⟩ = some p7) : Calls Tryz.prog 70 #[.slice (some ⟨g, 0, none⟩) 1 1] w fun e w' => e = .returned (.tuple #[.string ⟨#[55]⟩, .int .i64 0]) ∧ Only (fun _ => False) w w' := by
  have HS : Hid (Calls Tryz.prog 79 #[.slice (some ⟨g, 0, none⟩) 1 1] w fun e w' => e = .returned (.bool true) ∧ Only (fun _ => False) w w') := psounds7 w g hg
  have HG : Hid (w.cell? ⟨g, 0, none⟩ = some p7) := hg
  clear hg
  go_enter Tryz.func70, Tryz.ntmps70
  go_wp2_with fail
  refine (show Calls Tryz.prog 79 _ _ _ from HS.out).mono ?_
  rintro e w1 ⟨rfl, o1⟩
  have O1 : Hid (Only (fun _ => False) w w1) := o1
  obtain ⟨b, hb⟩ : ∃ b, b = w1.heap.size := ⟨_, rfl⟩
  obtain ⟨W2, hW2⟩ : ∃ W2, W2 = w1.alloc (.cells #[.pointer none, .slice none 0 0, .bool false] 155) := ⟨_, rfl⟩
  have A2 : WrU b b [] false W2 := ⟨Nat.le_refl _, .pointer none, .slice none 0 0, by rw [hW2]; exact va_at _ _ _ hb, .inl rfl, ⟨rfl, .inl ⟨rfl, rfl⟩⟩, by simp [Value.ownBlock]⟩
  have o2 : Only (fun _ => False) w1 W2 := by rw [hW2]; exact (Only.refl _ w1).alloc _
  have HI : Hid (Calls Tryz.prog 80 #[.pointer (some ⟨b, 0, none⟩), .slice (some ⟨g, 0, none⟩) 1 1] W2 fun e w' => e = .returned (.tuple #[]) ∧ Hid (WrU b b (Lib.byteCells [55]) true w' ∧ Only (fun k => b ≤ k) W2 w')) := witems7 b b g W2 A2 (by rw [hW2]; simp; omega) ((O1.out.trans o2 (fun _ _ g => g)).cell HG.out (fun h => h))
  have H2 : Hid (Only (fun _ => False) w W2 ∧ w.heap.size ≤ b) := ⟨O1.out.trans o2 (fun _ _ g => g), by rw [hb]; exact O1.out.size⟩
  clear HS o1 A2 o2 O1 HG
  go_wp2_with fail
  rw [← hb, ← hW2]
  refine (show Calls Tryz.prog 80 _ _ _ from HI.out).mono ?_
  rintro e w3 ⟨rfl, g3⟩
  have HW : Hid (Calls Tryz.prog 81 #[.pointer (some ⟨b, 0, none⟩)] w3 fun e w' => e = .returned (.tuple #[.string ⟨#[55]⟩, .int .i64 0]) ∧ Below b w3 w') := wwhole_any b b [55] true w3 g3.out.1 (by simp) (by simp)
  have O3 : Hid (Only (fun _ => False) w w3) := H2.out.1.trans g3.out.2 (fun k hk e => by have := H2.out.2; omega)
  clear HI g3 hW2 hb
  go_wp2_with fail
  refine (show Calls Tryz.prog 81 _ _ _ from HW.out).mono ?_
  rintro e w4 ⟨rfl, b4⟩
  have O4 : Hid (Only (fun _ => False) w w4) := O3.out.trans (⟨b4.os, b4.tape, b4.output, b4.size, fun k hk hn => b4.block k (by omega)⟩ : Only (fun k => b ≤ k) w3 w4) (fun k hk e => by have := H2.out.2; omega)
  clear HW b4 O3
  go_wp2
  go_ret2
  exact ⟨rfl, O4.out⟩
end Go.Proofs.YtllpacppedobjaaGreatDoor
namespace Go.Proofs.YtllpacppedobjaaGreatDoor
open Go.RowKit Go.Lib
set_option linter.unusedSimpArgs false
set_option linter.unusedVariables false
/-- the reserved words -/
def resB (s : ByteArray) : Bool := s.toList == [58] || s.toList == [59] || s.toList == [40] || s.toList == [45, 45] || s.toList == [41] || s.toList == [91] || s.toList == [93] || s.toList == [123] || s.toList == [125] || s.toList == [116] || s.toList == [102]
set_option maxRecDepth 100000 in
theorem reserved_any (s : ByteArray) (w : World) :
    Calls Tryz.prog 101 #[.string s] w fun x w' => x = .returned (.bool (resB s)) ∧ w' = w := by
  go_enter Tryz.func101, Tryz.ntmps101
  go_wp2
  all_goals
    go_ret
    refine ⟨?_, rfl⟩
    first
      | (exfalso; simp_all; done)
      | (unfold resB; simp only [*, Bool.or_true, Bool.or_false, Bool.true_or, Bool.false_or]; done)
      | (unfold resB; simp_all; done)
/-- may it be called? -/
def clB (s : ByteArray) : Bool := nameB s && !(resB s)
set_option maxRecDepth 100000 in
theorem pcallable_any (s : ByteArray) (w : World) (h : Nog w) : Calls Tryz.prog 93 #[.string s] w fun e w' => e = .returned (.bool (clB s)) ∧ Only (fun _ => False) w w' := by
  have HN : Hid _ := name_any s w h
  have HR := reserved_any s
  unfold clB
  obtain ⟨b, hb⟩ : ∃ b, b = nameB s := ⟨_, rfl⟩
  obtain ⟨r, hr⟩ : ∃ r, r = resB s := ⟨_, rfl⟩
  rw [← hb] at HN ⊢
  rw [← hr] at HR ⊢
  clear hb hr h
  go_enter Tryz.func93, Tryz.ntmps93
  go_wp2_with fail
  refine (show Calls Tryz.prog 100 _ _ _ from HN.out).mono ?_
  rintro e w1 ⟨rfl, o1⟩
  have O1 : Hid (Only (fun _ => False) w w1) := o1
  clear HN o1
  cases b with
  | false =>
    go_wp2
    go_ret
    exact ⟨rfl, O1.out⟩
  | true =>
    go_wp2_with (go_at_call 101; refine (HR _).mono ?_; rintro e w' ⟨rfl, hq⟩; rw [hq]; clear hq)
    go_ret
    exact ⟨by simp, O1.out⟩
theorem nog_keep {w w' : World} {M : Nat} (h : Nog w) (o : Only (fun b => b = M) w w') (hg : 4 ≠ M) : Nog w' := ⟨o.cell h.1 hg, o.cell h.2.1 hg, o.cell h.2.2 hg⟩
theorem nog_lt {w : World} (h : Nog w) : 4 < w.heap.size := World.block_lt_of_cell? w _ h.1
theorem wid4 (s : ByteArray) (pos : Nat) : (Utf8.decode s pos).2 ≤ 4 := by
  unfold Utf8.decode
  simp
  repeat' split
  all_goals simp
theorem crs_long {s : ByteArray} : ∀ (b pos : Nat), s.size ≤ pos + b → s.size - pos ≤ 4 * (crs s b pos).length
  | 0, pos, h => by omega
  | b + 1, pos, h => by
    by_cases hp : pos < s.size
    · have h1 := crs_long (s := s) b (pos + (Utf8.decode s pos).2) (by have := wid_pos s pos hp; omega)
      have h2 := wid4 s pos
      have e : crs s (b + 1) pos = (pos, (Utf8.decode s pos).1) :: crs s b (pos + (Utf8.decode s pos).2) := by simp [crs, hp]
      rw [e, List.length_cons]
      omega
    · omega
theorem nmL_short : ∀ (l : List Nat) (k : Nat), k ≤ 32 → nmL l k = true → k + l.length ≤ 32 ∧ 0 < k + l.length
  | [], k, hk, h => by simp only [nmL, decide_eq_true_eq] at h; simp; omega
  | c :: l, k, hk, h => by
    simp only [nmL] at h
    split at h
    · cases h
    · rename_i hn
      have := nmL_short l (k + 1) (by omega) h
      simp only [List.length_cons]
      omega
theorem name_size {s : ByteArray} (h : nameB s = true) : s.size ≤ 128 ∧ 0 < s.size := by
  unfold nameB nmdB at h
  simp only [Bool.and_eq_true] at h
  have h2 := h.2
  split at h2
  · cases h2
  · split at h2
    · cases h2
    · have h3 := nmL_short _ 0 (by omega) h2
      have h4 : (rns s).length = (crs s s.size 0).length := by simp [rns, chs]
      have h5 := crs_long (s := s) s.size 0 (by omega)
      refine ⟨by omega, ?_⟩
      rcases Nat.eq_zero_or_pos s.size with h0 | h0
      · have h6 : (crs s s.size 0).length = 0 := by rw [crs_end (by omega)]; rfl
        omega
      · exact h0
def cV (s : ByteArray) : Value := .iface 102 (.agg #[.string s])
theorem vzero_Push (W : World) : (zeroValue 99).run Tryz.prog W = .ok (.agg #[.nilIface]) W := by kernel_rfl
set_option maxRecDepth 100000 in
theorem pitemC (s : ByteArray) (M : Nat) (w : World) (h : MlB w M 1024) (hN : Nog w) (hg : 4 ≠ M) : Calls Tryz.prog 87 #[.pointer (some ⟨M, 0, none⟩), cV s, .int .i64 32] w fun e w' => e = .returned (.bool (clB s)) ∧ Only (fun b => b = M) w w' := by
  have mP := va_miss 102 99 86 _ Tryz.underlying99 (by intro m h; cases h) (by decide) _ vzero_Push
  have hC := va_hit 102 86 _ Tryz.underlying102 (by intro m h; cases h)
  have HM : Hid (∀ w1, Only (fun _ => False) w w1 → Calls Tryz.prog 92 #[.pointer (some ⟨M, 0, none⟩)] w1 fun e w' => e = .returned (.bool true) ∧ Only (fun b => b = M) w1 w' ∧ MlB w' M (1024 - 1)) := fun w1 o => pmore_any M 1024 w1 ((o.block M (Array.getElem?_eq_some_iff.1 h).1 (fun g => g)).trans h) (by omega) (by omega)
  have HC : Hid (∀ w1, Only (fun b => b = M) w w1 → Calls Tryz.prog 93 #[.string s] w1 fun e w' => e = .returned (.bool (clB s)) ∧ Only (fun _ => False) w1 w') := fun w1 o => pcallable_any s w1 (nog_keep hN o hg)
  have O0 : Hid (Only (fun _ => False) w w) := Only.refl _ _
  have HL : Hid (M < w.heap.size) := (Array.getElem?_eq_some_iff.1 h).1
  obtain ⟨b, hb⟩ : ∃ b, b = clB s := ⟨_, rfl⟩
  rw [← hb] at HC ⊢
  clear h hN hb hg
  unfold cV
  go_enter Tryz.func87, Tryz.ntmps87
  go_wp2_with fail
  refine (show Calls Tryz.prog 92 _ _ _ from HM.out _ (by repeat' first | exact O0.out | apply Only.alloc)).mono ?_
  rintro e w1 ⟨rfl, o1, _⟩
  have O1 : Hid (Only (fun b => b = M) w w1) := Only.trans (show Only (fun b => b = M) w _ by repeat' first | exact (Only.refl _ _) | apply Only.alloc) o1 (fun _ _ g => g)
  have x0 : w1.cell? ⟨w.heap.size, 0, none⟩ = some (.string s) := o1.cell (a := ⟨w.heap.size, 0, none⟩) (by simp [go_sem]) (by have := HL.out; simp only; omega)
  clear HM o1
  have HC1 : Hid _ := HC.out w1 O1.out
  clear HC
  go_wp2_with fail
  refine (show Calls Tryz.prog 93 _ _ _ from HC1.out).mono ?_
  rintro e w2 ⟨rfl, o2⟩
  have O2 : Hid (Only (fun b => b = M) w w2) := O1.out.trans (o2.mono (bs' := fun b => b = M) (fun _ _ g => g.elim)) (fun _ _ g => g)
  clear HC1 o2 O1
  go_wp2
  go_ret
  exact ⟨rfl, O2.out⟩
set_option maxRecDepth 100000 in
theorem psoundC (s : ByteArray) (w : World) (hN : Nog w) : Calls Tryz.prog 84 #[cV s] w fun e w' => e = .returned (.bool (clB s)) ∧ Only (fun _ => False) w w' := by
  have HI : Hid (Calls Tryz.prog 87 #[.pointer (some ⟨w.heap.size, 0, none⟩), cV s, .int .i64 32] (w.alloc (.cells #[.int .i64 1024] 169)) fun e w' => e = .returned (.bool (clB s)) ∧ Only (fun b => b = w.heap.size) (w.alloc (.cells #[.int .i64 1024] 169)) w') := pitemC s w.heap.size _ (va_at _ _ _ rfl) (hN.frame ((Only.refl _ w).alloc _)) (Nat.ne_of_lt (nog_lt hN))
  clear hN
  go_enter Tryz.func84, Tryz.ntmps84
  go_wp2_with fail
  refine (show Calls Tryz.prog 87 _ _ _ from HI.out).mono ?_
  rintro e w1 ⟨rfl, o1⟩
  have O1 : Hid (Only (fun _ => False) w w1) := ((Only.refl (fun _ => False) w).alloc _).trans o1 (fun k hk e => by omega)
  clear HI o1
  go_wp2
  go_ret
  exact ⟨rfl, O1.out⟩
set_option maxRecDepth 100000 in
theorem psoundsC (s : ByteArray) (w : World) (g : Nat) (hg : w.cell? ⟨g, 0, none⟩ = some (cV s)) (hN : Nog w) : Calls Tryz.prog 79 #[.slice (some ⟨g, 0, none⟩) 1 1] w fun e w' => e = .returned (.bool (clB s)) ∧ Only (fun _ => False) w w' := by
  have HI : Hid (Calls Tryz.prog 84 #[cV s] w fun e w' => e = .returned (.bool (clB s)) ∧ Only (fun _ => False) w w') := psoundC s w hN
  unfold cV at hg HI
  obtain ⟨b, hb⟩ : ∃ b, b = clB s := ⟨_, rfl⟩
  rw [← hb] at HI ⊢
  clear hN hb
  go_enter Tryz.func79, Tryz.ntmps79
  go_wp2
  go_loopw [7] (fun r wr => ∃ i : Int, r = .int .i64 i ∧ ((i = 0 ∧ wr = w) ∨ (i = 1 ∧ b = true ∧ Hid (Only (fun _ => False) w wr)))) (fun r _ => 1 - uOf r)
  case atStart => exact ⟨0, rfl, .inl ⟨rfl, rfl⟩⟩
  case round =>
    obtain ⟨i, rfl, ⟨rfl, hw⟩ | ⟨rfl, hb, HO⟩⟩ := hrel
    · rw [hw]
      clear hw
      go_wp2_with fail
      refine (show Calls Tryz.prog 84 _ _ _ from HI.out).mono ?_
      rintro e w2 ⟨rfl, o2⟩
      have O2 : Hid (Only (fun _ => False) w w2) := o2
      clear HI o2 hg
      cases b with
      | false =>
        go_wp2
        go_ret
        exact ⟨rfl, O2.out⟩
      | true =>
        go_wp2
        go_roundw
        case rel => exact ⟨1, rfl, .inr ⟨rfl, trivial, O2⟩⟩
        case measure => simp [uOf]
    · subst hb
      clear HI hg
      go_wp2
      go_ret
      exact ⟨rfl, HO.out⟩
set_option maxRecDepth 100000 in
theorem witemC (s : ByteArray) (hs : s.size ≤ 1000000) (B b : Nat) (w : World) (h : WrU B b [] false w) (hBw : B ≤ w.heap.size) : Calls Tryz.prog 85 #[.pointer (some ⟨b, 0, none⟩), cV s] w fun e w' => e = .returned (.tuple #[]) ∧ Hid (WrU B b (strCells s) true w' ∧ Only (fun k => B ≤ k) w w') := by
  have mP := va_miss 102 99 86 _ Tryz.underlying99 (by intro m h; cases h) (by decide) _ vzero_Push
  have hC := va_hit 102 86 _ Tryz.underlying102 (by intro m h; cases h)
  have HW : Hid (∀ w1, Only (fun _ => False) w w1 → Calls Tryz.prog 89 #[.pointer (some ⟨b, 0, none⟩), .string s] w1 fun e w' => e = .returned (.tuple #[]) ∧ Hid (WrU B b ([] ++ strCells s) true w' ∧ Only (fun k => B ≤ k) w1 w')) := fun w1 o => wword_first B b [] s w1 (h.only o) (by simp) hs (Nat.le_trans hBw o.size)
  have O0 : Hid (Only (fun _ => False) w w) := Only.refl _ _
  clear h hBw
  unfold cV
  go_enter Tryz.func85, Tryz.ntmps85
  go_wp2_with fail
  refine (show Calls Tryz.prog 89 _ _ _ from HW.out _ (by repeat' first | exact O0.out | apply Only.alloc)).mono ?_
  rintro e w1 ⟨rfl, g1⟩
  have G1 : Hid (WrU B b (strCells s) true w1 ∧ Only (fun k => B ≤ k) w w1) := ⟨g1.out.1, Only.trans (show Only (fun k => B ≤ k) w _ by repeat' first | exact (Only.refl _ _) | apply Only.alloc) g1.out.2 (fun _ _ g => g)⟩
  clear HW g1
  go_wp2
  go_end0
  exact ⟨rfl, G1.out⟩
set_option maxRecDepth 100000 in
theorem witemsC (s : ByteArray) (hs : s.size ≤ 1000000) (B b g : Nat) (w : World) (h : WrU B b [] false w) (hBw : B ≤ w.heap.size) (hg : w.cell? ⟨g, 0, none⟩ = some (cV s)) : Calls Tryz.prog 80 #[.pointer (some ⟨b, 0, none⟩), .slice (some ⟨g, 0, none⟩) 1 1] w fun e w' => e = .returned (.tuple #[]) ∧ Hid (WrU B b (strCells s) true w' ∧ Only (fun k => B ≤ k) w w') := by
  have HI : Hid (Calls Tryz.prog 85 #[.pointer (some ⟨b, 0, none⟩), cV s] w fun e w' => e = .returned (.tuple #[]) ∧ Hid (WrU B b (strCells s) true w' ∧ Only (fun k => B ≤ k) w w')) := witemC s hs B b w h hBw
  unfold cV at HI hg
  clear h hBw
  go_enter Tryz.func80, Tryz.ntmps80
  go_wp2
  go_loopw [8] (fun r wr => (r = .int .i64 0 ∧ wr = w) ∨ (r = .int .i64 1 ∧ Hid (WrU B b (strCells s) true wr ∧ Only (fun k => B ≤ k) w wr))) (fun r _ => 1 - uOf r)
  case atStart => exact .inl ⟨rfl, rfl⟩
  case round =>
    rcases hrel with ⟨rfl, rfl⟩ | ⟨rfl, HO⟩
    · go_wp2_with fail
      refine (show Calls Tryz.prog 85 _ _ _ from HI.out).mono ?_
      rintro e w2 ⟨rfl, g2⟩
      clear HI hg
      go_wp2
      go_roundw
      case rel => exact .inr ⟨rfl, g2⟩
      case measure => simp [uOf]
    · obtain ⟨w1, rfl⟩ : ∃ w1, w1 = wr := ⟨_, rfl⟩
      go_wp2
      go_end0
      exact ⟨rfl, HO⟩
theorem byteCells_str (s : ByteArray) : Lib.byteCells s.data.toList = strCells s := by
  first | rfl | simp [Lib.byteCells, strCells]
set_option maxRecDepth 100000 in
theorem textC (s : ByteArray) (g : Nat) (w : World) (hg : w.cell? ⟨g, 0, none⟩ = some (cV s)) (hN : Nog w) : Calls Tryz.prog 70 #[.slice (some ⟨g, 0, none⟩) 1 1] w fun e w' => e = .returned (.tuple #[.string (if clB s then s else ⟨#[]⟩), .int .i64 (if clB s then 0 else 1)]) ∧ Only (fun _ => False) w w' := by
  have HS : Hid (Calls Tryz.prog 79 #[.slice (some ⟨g, 0, none⟩) 1 1] w fun e w' => e = .returned (.bool (clB s)) ∧ Only (fun _ => False) w w') := psoundsC s w g hg hN
  have HG : Hid (w.cell? ⟨g, 0, none⟩ = some (cV s)) := hg
  obtain ⟨bb, hbb⟩ : ∃ bb, bb = clB s := ⟨_, rfl⟩
  have HB : Hid (bb = clB s) := hbb
  rw [← hbb] at HS ⊢
  clear hg hN hbb
  go_enter Tryz.func70, Tryz.ntmps70
  go_wp2_with fail
  refine (show Calls Tryz.prog 79 _ _ _ from HS.out).mono ?_
  rintro e w1 ⟨rfl, o1⟩
  have O1 : Hid (Only (fun _ => False) w w1) := o1
  cases bb with
  | false =>
    clear HS o1
    go_wp2
    go_ret2
    exact ⟨rfl, O1.out⟩
  | true =>
    have hsz : s.size ≤ 128 ∧ 0 < s.size := by
      have := HB.out
      unfold clB at this
      exact name_size (Bool.and_eq_true .. ▸ this.symm : nameB s = true ∧ _).1
    obtain ⟨b, hb⟩ : ∃ b, b = w1.heap.size := ⟨_, rfl⟩
    obtain ⟨W2, hW2⟩ : ∃ W2, W2 = w1.alloc (.cells #[.pointer none, .slice none 0 0, .bool false] 155) := ⟨_, rfl⟩
    have A2 : WrU b b [] false W2 := ⟨Nat.le_refl _, .pointer none, .slice none 0 0, by rw [hW2]; exact va_at _ _ _ hb, .inl rfl, ⟨rfl, .inl ⟨rfl, rfl⟩⟩, by simp [Value.ownBlock]⟩
    have o2 : Only (fun _ => False) w1 W2 := by rw [hW2]; exact (Only.refl _ w1).alloc _
    have HI : Hid (Calls Tryz.prog 80 #[.pointer (some ⟨b, 0, none⟩), .slice (some ⟨g, 0, none⟩) 1 1] W2 fun e w' => e = .returned (.tuple #[]) ∧ Hid (WrU b b (strCells s) true w' ∧ Only (fun k => b ≤ k) W2 w')) := witemsC s (by omega) b b g W2 A2 (by rw [hW2]; simp; omega) ((O1.out.trans o2 (fun _ _ g => g)).cell HG.out (fun h => h))
    have H2 : Hid (Only (fun _ => False) w W2 ∧ w.heap.size ≤ b) := ⟨O1.out.trans o2 (fun _ _ g => g), by rw [hb]; exact O1.out.size⟩
    have HZ : Hid (s.size ≤ 128 ∧ 0 < s.size) := hsz
    clear HS o1 A2 o2 O1 HG hsz
    go_wp2_with fail
    rw [← hb, ← hW2]
    refine (show Calls Tryz.prog 80 _ _ _ from HI.out).mono ?_
    rintro e w3 ⟨rfl, g3⟩
    have HW : Hid (Calls Tryz.prog 81 #[.pointer (some ⟨b, 0, none⟩)] w3 fun e w' => e = .returned (.tuple #[.string ⟨s.data.toList.toArray⟩, .int .i64 0]) ∧ Below b w3 w') := by
      have hl : s.data.toList.length = s.size := Array.length_toList
      refine wwhole_any b b s.data.toList true w3 (by rw [byteCells_str]; exact g3.out.1) (fun e => ?_) (by have := HZ.out; omega)
      rw [e] at hl
      have := HZ.out
      simp at hl
      omega
    have O3 : Hid (Only (fun _ => False) w w3) := H2.out.1.trans g3.out.2 (fun k hk e => by have := H2.out.2; omega)
    clear HI g3 hW2 hb
    go_wp2_with fail
    refine (show Calls Tryz.prog 81 _ _ _ from HW.out).mono ?_
    rintro e w4 ⟨rfl, b4⟩
    have O4 : Hid (Only (fun _ => False) w w4) := O3.out.trans (⟨b4.os, b4.tape, b4.output, b4.size, fun k hk hn => b4.block k (by omega)⟩ : Only (fun k => b ≤ k) w3 w4) (fun k hk e => by have := H2.out.2; omega)
    clear HW b4 O3
    go_wp2
    go_ret2
    exact ⟨by simp, O4.out⟩
set_option maxRecDepth 100000 in
theorem vcallable_any (s : ByteArray) (w : World) (hN : Nog w) : Calls Tryz.prog 75 #[.agg #[.string s]] w fun e w' => e = .returned (.bool (clB s)) ∧ Only (fun _ => False) w w' := by
  have HT : Hid (∀ w1 g, Only (fun _ => False) w w1 → w1.cell? ⟨g, 0, none⟩ = some (.iface 102 (.agg #[.string s])) → Calls Tryz.prog 70 #[.slice (some ⟨g, 0, none⟩) 1 1] w1 fun e w' => e = .returned (.tuple #[.string (if clB s then s else ⟨#[]⟩), .int .i64 (if clB s then 0 else 1)]) ∧ Only (fun _ => False) w1 w') := fun w1 g o hg => textC s g w1 hg (hN.frame o)
  have O0 : Hid (Only (fun _ => False) w w) := Only.refl _ _
  obtain ⟨bb, hbb⟩ : ∃ bb, bb = clB s := ⟨_, rfl⟩
  rw [← hbb] at HT ⊢
  clear hN hbb
  go_enter Tryz.func75, Tryz.ntmps75
  go_wp2_with fail
  refine (show Calls Tryz.prog 70 _ _ _ from HT.out _ _ (by repeat' first | exact O0.out | apply Only.alloc) (by simp [go_sem])).mono ?_
  rintro e w1 ⟨rfl, o1⟩
  have O1 : Hid (Only (fun _ => False) w w1) := Only.trans (show Only (fun _ => False) w _ by repeat' first | exact (Only.refl _ _) | apply Only.alloc) o1 (fun _ _ g => g)
  clear HT o1
  cases bb with
  | false =>
    go_wp2
    go_ret
    exact ⟨rfl, O1.out⟩
  | true =>
    go_wp2
    go_ret
    exact ⟨rfl, O1.out⟩
end Go.Proofs.YtllpacppedobjaaGreatDoor
namespace Go.Proofs.YtllpacppedobjaaGreatDoor
open Go.RowKit Go.Lib
set_option linter.unusedSimpArgs false
set_option linter.unusedVariables false
/-- v is none of the six values -/
structure BadV (v : Value) : Prop where
  k : v = .nilIface ∨ ∃ T x, v = .iface T x
  l : ∀ W : World, (Instr.typeAssert v 27 71 true).run Tryz.prog W = .ok (.tuple #[.agg #[.slice none 0 0], .bool false]) W
  q : ∀ W : World, (Instr.typeAssert v 27 73 true).run Tryz.prog W = .ok (.tuple #[.agg #[.slice none 0 0], .bool false]) W
  i : ∀ W : World, (Instr.typeAssert v 27 63 true).run Tryz.prog W = .ok (.tuple #[.agg #[.int .i64 0], .bool false]) W
  s : ∀ W : World, (Instr.typeAssert v 27 65 true).run Tryz.prog W = .ok (.tuple #[.agg #[.string ByteArray.empty], .bool false]) W
  x : ∀ W : World, (Instr.typeAssert v 27 75 true).run Tryz.prog W = .ok (.tuple #[.agg #[.int .i64 0], .bool false]) W
  b : ∀ W : World, (Instr.typeAssert v 27 67 true).run Tryz.prog W = .ok (.tuple #[.agg #[.bool false], .bool false]) W
set_option maxRecDepth 100000 in
theorem bad_nil : BadV .nilIface := by
  refine ⟨.inl rfl, ?_, ?_, ?_, ?_, ?_, ?_⟩ <;> intro W <;> rfl
set_option maxRecDepth 100000 in
theorem bad_ptr (T : TypeId) (x : Value) (h1 : T ≠ 71) (h2 : T ≠ 73) (h3 : T ≠ 63) (h4 : T ≠ 65) (h5 : T ≠ 75) (h6 : T ≠ 67) : BadV (.iface T x) := by
  refine ⟨.inr ⟨T, x, rfl⟩, ?_, ?_, ?_, ?_, ?_, ?_⟩
  · exact va_miss T 71 27 _ Tryz.underlying71 (by intro m h; cases h) h1 _ (fun _ => rfl) x
  · exact va_miss T 73 27 _ Tryz.underlying73 (by intro m h; cases h) h2 _ (fun _ => rfl) x
  · exact va_miss T 63 27 _ Tryz.underlying63 (by intro m h; cases h) h3 _ (fun _ => rfl) x
  · exact va_miss T 65 27 _ Tryz.underlying65 (by intro m h; cases h) h4 _ (fun _ => rfl) x
  · exact va_miss T 75 27 _ Tryz.underlying75 (by intro m h; cases h) h5 _ (fun _ => rfl) x
  · exact va_miss T 67 27 _ Tryz.underlying67 (by intro m h; cases h) h6 _ (fun _ => rfl) x
/-- a measure in memory -/
def VmB (w : World) (M : Nat) (k d : Int) : Prop := w.heap[M]? = some (.cells #[.int .i64 k, .int .i64 d] 78)
set_option maxRecDepth 100000 in
theorem vcount_any (M : Nat) (k d : Int) (w : World) (h : VmB w M k d) (h1 : 0 ≤ k) (h2 : k < 1000) : Calls Tryz.prog 62 #[.pointer (some ⟨M, 0, none⟩)] w fun e w' => e = .returned (.bool true) ∧ Only (fun b => b = M) w w' ∧ VmB w' M (k + 1) d := by
  have c0 := wr_cell h 0
  have f0 := wr_froz h 0
  simp only [List.getElem?_toArray, List.getElem?_cons_zero] at c0
  have HM : Hid (VmB w M k d) := h
  have i1 : k + 1 ≤ 1024 := by omega
  clear h
  go_enter Tryz.func62, Tryz.ntmps62
  go_wp2
  go_ret
  exact ⟨by simp [i1], (Only.refl (fun b => b = M) w).setCell _ _ (fun _ => rfl), (heap_setCell_same _ _ _ _ _ _ HM.out).trans rfl⟩
set_option maxRecDepth 100000 in
theorem venter_any (M : Nat) (k d : Int) (w : World) (h : VmB w M k d) (h1 : 0 ≤ d) (h2 : d ≤ 32) : Calls Tryz.prog 63 #[.pointer (some ⟨M, 0, none⟩), .int .i64 1] w fun e w' => e = .returned (.bool true) ∧ Only (fun b => b = M) w w' ∧ ∃ d', VmB w' M k d' ∧ 0 ≤ d' ∧ d' ≤ 32 := by
  have c1 := wr_cell h 1
  have f1 := wr_froz h 1
  simp only [List.getElem?_toArray, List.getElem?_cons_succ, List.getElem?_cons_zero] at c1
  have HM : Hid (VmB w M k d) := h
  clear h
  go_enter Tryz.func63, Tryz.ntmps63
  go_wp2
  all_goals
    go_ret
    refine ⟨rfl, (Only.refl (fun b => b = M) w).setCell _ _ (fun _ => rfl), _, (heap_setCell_same _ _ _ _ _ _ HM.out).trans rfl, ?_, ?_⟩ <;> omega
set_option maxRecDepth 100000 in
theorem alone_bad (v : Value) (hv : BadV v) (w : World) : Calls Tryz.prog 67 #[v] w fun e w' => e = .returned (.bool false) ∧ Only (fun _ => False) w w' := by
  have hi := hv.i
  have hs := hv.s
  have hx := hv.x
  have hb := hv.b
  have O0 : Hid (Only (fun _ => False) w w) := Only.refl _ _
  clear hv
  go_enter Tryz.func67, Tryz.ntmps67
  go_wp2
  all_goals
    go_ret
    refine ⟨rfl, ?_⟩
    repeat (first | exact O0.out | refine Only.alloc ?_ _)
set_option maxRecDepth 100000 in
theorem alone_int (n : Int) (h1 : -1000 ≤ n) (h2 : n ≤ 1000) (w : World) : Calls Tryz.prog 67 #[.iface 63 (.agg #[.int .i64 n])] w fun e w' => e = .returned (.bool true) ∧ Only (fun _ => False) w w' := by
  have hi := va_hit 63 27 _ Tryz.underlying63 (by intro m h; cases h)
  have O0 : Hid (Only (fun _ => False) w w) := Only.refl _ _
  have i1 : (-1152921504606846976 : Int) ≤ n := by omega
  have i2 : n ≤ 1152921504606846975 := by omega
  go_enter Tryz.func67, Tryz.ntmps67
  go_wp2
  all_goals
    go_ret
    refine ⟨by simp [i1, i2], ?_⟩
    repeat (first | exact O0.out | refine Only.alloc ?_ _)
set_option maxRecDepth 100000 in
theorem vval_bad (v : Value) (hv : BadV v) (M : Nat) (k d o : Int) (w : World) (h : VmB w M k d) (h1 : 0 ≤ k) (h2 : k < 1000) : Calls Tryz.prog 44 #[.pointer (some ⟨M, 0, none⟩), v, .int .i64 o] w fun e w' => e = .returned (.bool false) ∧ Only (fun b => b = M) w w' := by
  have HM : Hid (Calls Tryz.prog 62 #[.pointer (some ⟨M, 0, none⟩)] w fun e w' => e = .returned (.bool true) ∧ Only (fun b => b = M) w w' ∧ VmB w' M (k + 1) d) := vcount_any M k d w h h1 h2
  have HA : Hid (∀ w1, Calls Tryz.prog 67 #[v] w1 fun e w' => e = .returned (.bool false) ∧ Only (fun _ => False) w1 w') := alone_bad v hv
  have hl := hv.l
  have hq := hv.q
  clear h hv
  go_enter Tryz.func44, Tryz.ntmps44
  go_wp2_with fail
  refine (show Calls Tryz.prog 62 _ _ _ from HM.out).mono ?_
  rintro e w1 ⟨rfl, o1, _⟩
  have O1 : Hid (Only (fun b => b = M) w w1) := o1
  clear HM o1
  go_wp2_with fail
  all_goals
    refine (show Calls Tryz.prog 67 _ _ _ from HA.out _).mono ?_
    rintro e w2 ⟨rfl, o2⟩
    have O2 : Hid (Only (fun b => b = M) w w2) := ((O1.out.alloc _).alloc _).trans o2 (fun _ _ g => g.elim)
    clear o2
    go_wp2
    go_ret
    exact ⟨rfl, O2.out⟩
set_option maxRecDepth 100000 in
theorem vval_int (n : Int) (g1 : -1000 ≤ n) (g2 : n ≤ 1000) (M : Nat) (k d o : Int) (w : World) (h : VmB w M k d) (h1 : 0 ≤ k) (h2 : k < 1000) : Calls Tryz.prog 44 #[.pointer (some ⟨M, 0, none⟩), .iface 63 (.agg #[.int .i64 n]), .int .i64 o] w fun e w' => e = .returned (.bool true) ∧ Only (fun b => b = M) w w' ∧ VmB w' M (k + 1) d := by
  have HM : Hid (Calls Tryz.prog 62 #[.pointer (some ⟨M, 0, none⟩)] w fun e w' => e = .returned (.bool true) ∧ Only (fun b => b = M) w w' ∧ VmB w' M (k + 1) d) := vcount_any M k d w h h1 h2
  have HA : Hid (∀ w1, Calls Tryz.prog 67 #[.iface 63 (.agg #[.int .i64 n])] w1 fun e w' => e = .returned (.bool true) ∧ Only (fun _ => False) w1 w') := alone_int n g1 g2
  have hl := va_miss 63 71 27 _ Tryz.underlying71 (by intro m h; cases h) (by decide) (.agg #[.slice none 0 0]) (fun _ => rfl)
  have hq := va_miss 63 73 27 _ Tryz.underlying73 (by intro m h; cases h) (by decide) (.agg #[.slice none 0 0]) (fun _ => rfl)
  have hb : M < w.heap.size := (Array.getElem?_eq_some_iff.mp h).1
  have HB : Hid (M < w.heap.size) := hb
  clear h g1 g2 hb
  go_enter Tryz.func44, Tryz.ntmps44
  go_wp2_with fail
  refine (show Calls Tryz.prog 62 _ _ _ from HM.out).mono ?_
  rintro e w1 ⟨rfl, o1, m1⟩
  have O1 : Hid (Only (fun b => b = M) w w1) := o1
  have M1 : Hid (VmB w1 M (k + 1) d) := m1
  clear HM o1 m1
  go_wp2_with fail
  all_goals
    refine (show Calls Tryz.prog 67 _ _ _ from HA.out _).mono ?_
    rintro e w2 ⟨rfl, o2⟩
    have o3 : Only (fun _ => False) w1 w2 := (((Only.refl _ w1).alloc _).alloc _).trans o2 (fun _ _ g => g)
    have O2 : Hid (Only (fun b => b = M) w w2) := O1.out.trans o3 (fun _ _ g => g.elim)
    have M2 : Hid (VmB w2 M (k + 1) d) := (o3.block M (by first | exact Nat.lt_of_lt_of_le HB.out O1.out.size | exact (Array.getElem?_eq_some_iff.mp M1.out).1) (fun h => h)).trans M1.out
    clear o2 o3
    go_wp2
    go_ret
    exact ⟨rfl, O2.out, M2.out⟩
end Go.Proofs.YtllpacppedobjaaGreatDoor
namespace Go.Proofs
open Go.Shelf
def Tryz.laysValid_ren : Go.Shelf.Ren := ⟨fun | 196 => 76 | 259 => 83 | n => n, fun | 9 => 9 | 4 => 4 | 3 => 3 | 5 => 5 | 12 => 12 | 119 => 160 | 0 => 0 | 46 => 164 | 139 => 163 | 138 => 162 | 53 => 127 | n => n, fun | 3 => 0 | 4 => 1 | n => n⟩
theorem Tryz.laysValid : Go.Proofs.Lays.n196 Tryz.prog Tryz.laysValid_ren := {
  mixed := by kernel_rfl
  f196 := Tryz.func76.trans (congrArg some (by kernel_rfl))
  f259 := Tryz.func83.trans (congrArg some (by kernel_rfl))
  t0 := Tryz.underlying0
  a0 := Tryz.isAgg0
  z0 := Tryz.sizeOf0
  v0 := Tryz.zeroValue0
  t3 := Tryz.underlying3
  a3 := Tryz.isAgg3
  z3 := Tryz.sizeOf3
  v3 := Tryz.zeroValue3
  t4 := Tryz.underlying4
  a4 := Tryz.isAgg4
  z4 := Tryz.sizeOf4
  v4 := Tryz.zeroValue4
  t5 := Tryz.underlying5
  a5 := Tryz.isAgg5
  z5 := Tryz.sizeOf5
  v5 := Tryz.zeroValue5
  t9 := Tryz.underlying9
  a9 := Tryz.isAgg9
  z9 := Tryz.sizeOf9
  v9 := Tryz.zeroValue9
  t12 := Tryz.underlying12
  a12 := Tryz.isAgg12
  z12 := Tryz.sizeOf12
  v12 := Tryz.zeroValue12
  t46 := Tryz.underlying164
  a46 := Tryz.isAgg164
  z46 := Tryz.sizeOf164
  v46 := Tryz.zeroValue164
  t53 := Tryz.underlying127
  a53 := Tryz.isAgg127
  z53 := Tryz.sizeOf127
  v53 := Tryz.zeroValue127
  t119 := Tryz.underlying160
  a119 := Tryz.isAgg160
  z119 := Tryz.sizeOf160
  t138 := Tryz.underlying162
  a138 := Tryz.isAgg162
  z138 := Tryz.sizeOf162
  v138 := Tryz.zeroValue162
  t139 := Tryz.underlying163
  a139 := Tryz.isAgg163
  z139 := Tryz.sizeOf163
  v139 := Tryz.zeroValue163
  g3 := by kernel_rfl
  g4 := by kernel_rfl }
end Go.Proofs
namespace Go.Proofs.YtllpacppedobjaaGreatDoor
open Go.RowKit Go.Lib
set_option linter.unusedSimpArgs false
set_option linter.unusedVariables false
/-- the tables that are read, as they begin -/
def Tb (w : World) : Prop := Nog w ∧ Lib.Utf8Tabs 0 1 w
/-- is a text one of characters? -/
def vlB (s : ByteArray) : Bool := Lib.validD s.data.toList
/-- is a value sound that holds no others? -/
def alB (t : Vt) : Bool :=
  if t.k = 1 then decide (-1152921504606846976 ≤ t.n) && decide (t.n ≤ 1152921504606846975) else if t.k = 2 then decide (t.s.size ≤ 4096) && vlB t.s
  else if t.k = 6 then decide (1 ≤ t.n) && decide (t.n ≤ 1048576) else decide (t.k = 3)
/-- how many values and items there are -/
def sz : Nat → Bool → Vt → Nat
  | 0, _, _ => 1
  | d + 1, true, t => if t.k = 7 ∨ t.k = 8 then 1 else sz d false t
  | d + 1, false, t => 1 + (t.l.map (sz d (decide (t.k = 5)))).sum
/-- how many lists and quotations stand within one another -/
def dp : Nat → Bool → Vt → Nat
  | 0, _, _ => 0
  | d + 1, true, t => if t.k = 7 ∨ t.k = 8 then 0 else dp d false t
  | d + 1, false, t => if t.k = 4 ∨ t.k = 5 then 1 + ((t.l.map (dp d (decide (t.k = 5)))).foldl max 0) else 0
/-- is each part what it may be? -/
def okV : Nat → Bool → Vt → Bool
  | 0, _, _ => false
  | d + 1, true, t => if t.k = 7 then clB t.s else if t.k = 8 then false else okV d false t
  | d + 1, false, t => if t.k = 4 ∨ t.k = 5 then t.l.all (okV d (decide (t.k = 5))) else alB t
def msB (d : Nat) (i : Bool) (t : Vt) (k o : Nat) : Bool := okV d i t && decide (k + sz d i t ≤ 1024) && decide (o + dp d i t ≤ 32)
/-- the same of parts, one behind the other -/
def evB (d : Nat) (i : Bool) : List Vt → Nat → Nat → Bool
  | [], _, _ => true
  | x :: r, k, o => msB d i x k o && evB d i r (k + sz d i x) o
theorem sz_pos : ∀ (d : Nat) (i : Bool) (t : Vt), 1 ≤ sz d i t
  | 0, _, _ => Nat.le_refl _
  | d + 1, true, t => by
    unfold sz
    split
    · exact Nat.le_refl _
    · exact sz_pos d false t
  | d + 1, false, t => by unfold sz; omega
theorem foldl_max (l : List Nat) : ∀ (a : Nat), l.foldl max a = max a (l.foldl max 0) := by
  induction l with
  | nil => intro a; simp
  | cons x l ih => intro a; simp only [List.foldl_cons]; rw [ih (max a x), ih (max 0 x)]; omega
theorem evB_eq (d : Nat) (i : Bool) : ∀ (l : List Vt) (k o : Nat), k ≤ 1024 → o ≤ 32 → evB d i l k o = (l.all (okV d i) && decide (k + (l.map (sz d i)).sum ≤ 1024) && decide (o + (l.map (dp d i)).foldl max 0 ≤ 32))
  | [], k, o, hk, ho => by simp [evB, hk, ho]
  | x :: r, k, o, hk, ho => by
    have hp := sz_pos d i x
    simp only [evB, msB, List.all_cons, List.map_cons, List.sum_cons, List.foldl_cons]
    rw [foldl_max _ (max 0 (dp d i x))]
    by_cases h1 : k + sz d i x ≤ 1024
    · rw [evB_eq d i r (k + sz d i x) o h1 ho]
      rw [Bool.eq_iff_iff]
      simp only [Bool.and_eq_true, decide_eq_true_eq]
      constructor
      · rintro ⟨⟨⟨a1, a2⟩, a3⟩, ⟨a4, a5⟩, a6⟩
        exact ⟨⟨⟨a1, a4⟩, by omega⟩, by omega⟩
      · rintro ⟨⟨⟨a1, a4⟩, a2⟩, a3⟩
        exact ⟨⟨⟨a1, h1⟩, by omega⟩, ⟨a4, by omega⟩, by omega⟩
    · have e1 : decide (k + sz d i x ≤ 1024) = false := decide_eq_false h1
      have e2 : decide (k + (sz d i x + (r.map (sz d i)).sum) ≤ 1024) = false := decide_eq_false (by omega)
      rw [e1, e2]
      simp
set_option maxRecDepth 100000 in
theorem vcount_all (M : Nat) (k d : Int) (w : World) (h : VmB w M k d) (h1 : 0 ≤ k) (h2 : k ≤ 2000) : Calls Tryz.prog 62 #[.pointer (some ⟨M, 0, none⟩)] w fun e w' => e = .returned (.bool (decide (k + 1 ≤ 1024))) ∧ Only (fun b => b = M) w w' ∧ VmB w' M (k + 1) d := by
  have c0 := wr_cell h 0
  have f0 := wr_froz h 0
  simp only [List.getElem?_toArray, List.getElem?_cons_zero] at c0
  have HM : Hid (VmB w M k d) := h
  clear h
  go_enter Tryz.func62, Tryz.ntmps62
  go_wp2
  go_ret
  exact ⟨rfl, (Only.refl (fun b => b = M) w).setCell _ _ (fun _ => rfl), (heap_setCell_same _ _ _ _ _ _ HM.out).trans rfl⟩
set_option maxRecDepth 100000 in
theorem venter_all (M : Nat) (k d o : Int) (w : World) (h : VmB w M k d) (h1 : 0 ≤ d) (h2 : d ≤ 1000) (h3 : 0 ≤ o) (h4 : o ≤ 1000) : Calls Tryz.prog 63 #[.pointer (some ⟨M, 0, none⟩), .int .i64 o] w fun e w' => e = .returned (.bool (decide (o ≤ 32))) ∧ Only (fun b => b = M) w w' ∧ ∃ d', VmB w' M k d' ∧ d' = max d o ∧ d' ≤ 1000 := by
  have c1 := wr_cell h 1
  have f1 := wr_froz h 1
  simp only [List.getElem?_toArray, List.getElem?_cons_succ, List.getElem?_cons_zero] at c1
  have HM : Hid (VmB w M k d) := h
  clear h
  go_enter Tryz.func63, Tryz.ntmps63
  go_wp2
  all_goals
    go_ret
    refine ⟨rfl, (Only.refl (fun b => b = M) w).setCell _ _ (fun _ => rfl), _, (heap_setCell_same _ _ _ _ _ _ HM.out).trans rfl, ?_, ?_⟩ <;> omega
theorem valid_any (s : ByteArray) (hs : s.size ≤ 9223372036854775807) (w : World) (h : Tb w) : Calls Tryz.prog 76 #[.string s] w fun e w' => e = .returned (.bool (vlB s)) ∧ Only (fun _ => False) w w' := by
  have := Any.utf8_ValidString Tryz.laysValid s w hs h.2
  refine (show Calls Tryz.prog 76 _ _ _ from this).mono ?_
  rintro e w' ⟨he, hb⟩
  exact ⟨he, ⟨hb.os, hb.tape, hb.output, hb.size, fun k hk _ => hb.block k hk⟩⟩
end Go.Proofs.YtllpacppedobjaaGreatDoor
namespace Go.Proofs.YtllpacppedobjaaGreatDoor
open Go.RowKit Go.Lib
set_option linter.unusedSimpArgs false
set_option linter.unusedVariables false
theorem Tb.keep {w w' : World} {M : Nat} (h : Tb w) (o : Only (fun b => b = M) w w') (hg : 4 ≠ M) (h0 : 0 ≠ M) (h1 : 1 ≠ M) : Tb w' :=
  ⟨nog_keep h.1 o hg, fun c hc => o.cell (h.2.1 c hc) h0, fun i hi => ⟨o.cell (h.2.2 i hi).1 h1, o.cell (h.2.2 i hi).2 h1⟩⟩
theorem Tb.frame {w w' : World} (h : Tb w) (o : Only (fun _ => False) w w') : Tb w' :=
  ⟨h.1.frame o, fun c hc => o.cell (h.2.1 c hc) (fun g => g), fun i hi => ⟨o.cell (h.2.2 i hi).1 (fun g => g), o.cell (h.2.2 i hi).2 (fun g => g)⟩⟩
theorem Tb.lt {w : World} (h : Tb w) : 4 < w.heap.size ∧ 0 < w.heap.size ∧ 1 < w.heap.size :=
  ⟨nog_lt h.1, World.block_lt_of_cell? w _ (h.2.1 0 (by omega)), World.block_lt_of_cell? w _ (h.2.2 0 (by omega)).1⟩
theorem zI (W : World) : (zeroValue 63).run Tryz.prog W = .ok (.agg #[.int .i64 0]) W := by kernel_rfl
theorem zS (W : World) : (zeroValue 65).run Tryz.prog W = .ok (.agg #[.string ⟨#[]⟩]) W := by kernel_rfl
theorem zB (W : World) : (zeroValue 75).run Tryz.prog W = .ok (.agg #[.int .i64 0]) W := by kernel_rfl
theorem zL (W : World) : (zeroValue 71).run Tryz.prog W = .ok (.agg #[.slice none 0 0]) W := by kernel_rfl
theorem zQ (W : World) : (zeroValue 73).run Tryz.prog W = .ok (.agg #[.slice none 0 0]) W := by kernel_rfl
theorem zO (W : World) : (zeroValue 67).run Tryz.prog W = .ok (.agg #[.bool false]) W := by kernel_rfl
theorem zC (W : World) : (zeroValue 102).run Tryz.prog W = .ok (.agg #[.string ⟨#[]⟩]) W := by kernel_rfl
set_option maxRecDepth 100000 in
theorem alone1 (n : Int) (w : World) : Calls Tryz.prog 67 #[.iface 63 (.agg #[.int .i64 n])] w fun e w' => e = .returned (.bool (decide (-1152921504606846976 ≤ n) && decide (n ≤ 1152921504606846975))) ∧ Only (fun _ => False) w w' := by
  have hi := va_hit 63 27 _ Tryz.underlying63 (by intro m h; cases h)
  have O0 : Hid (Only (fun _ => False) w w) := Only.refl _ _
  by_cases h1 : (-1152921504606846976 : Int) ≤ n
  · rw [decide_eq_true h1]
    go_enter Tryz.func67, Tryz.ntmps67
    go_wp2
    all_goals
      go_ret
      refine ⟨by simp, ?_⟩
      repeat (first | exact O0.out | refine Only.alloc ?_ _)
  · rw [decide_eq_false h1]
    go_enter Tryz.func67, Tryz.ntmps67
    go_wp2
    all_goals
      go_ret
      refine ⟨by simp, ?_⟩
      repeat (first | exact O0.out | refine Only.alloc ?_ _)
set_option maxRecDepth 100000 in
theorem alone2 (s : ByteArray) (hs : s.size ≤ 268435456) (w : World) (hT : Tb w) : Calls Tryz.prog 67 #[.iface 65 (.agg #[.string s])] w fun e w' => e = .returned (.bool (decide (s.size ≤ 4096) && vlB s)) ∧ Only (fun _ => False) w w' := by
  have mi := va_miss 65 63 27 _ Tryz.underlying63 (by intro m h; cases h) (by decide) _ zI
  have hi := va_hit 65 27 _ Tryz.underlying65 (by intro m h; cases h)
  have O0 : Hid (Only (fun _ => False) w w) := Only.refl _ _
  have HV : Hid (∀ w1, Only (fun _ => False) w w1 → Calls Tryz.prog 76 #[.string s] w1 fun e w' => e = .returned (.bool (vlB s)) ∧ Only (fun _ => False) w1 w') := fun w1 o => valid_any s (by omega) w1 (hT.frame o)
  obtain ⟨b, hb⟩ : ∃ b, b = vlB s := ⟨_, rfl⟩
  rw [← hb] at HV ⊢
  clear hT hb
  by_cases h4 : s.size ≤ 4096
  · have i4 : (s.size : Int) ≤ 4096 := by omega
    rw [decide_eq_true h4]
    clear h4
    go_enter Tryz.func67, Tryz.ntmps67
    go_wp2_with fail
    refine (show Calls Tryz.prog 76 _ _ _ from HV.out _ (by repeat' first | exact O0.out | apply Only.alloc)).mono ?_
    rintro e w1 ⟨rfl, o1⟩
    have O1 : Hid (Only (fun _ => False) w w1) := Only.trans (show Only (fun _ => False) w _ by repeat' first | exact (Only.refl _ _) | apply Only.alloc) o1 (fun _ _ g => g)
    clear HV o1
    go_wp2
    go_ret
    exact ⟨by simp, O1.out⟩
  · have i4 : ¬ (s.size : Int) ≤ 4096 := by omega
    rw [decide_eq_false h4]
    clear h4 HV
    go_enter Tryz.func67, Tryz.ntmps67
    go_wp2
    go_ret
    refine ⟨by simp, ?_⟩
    repeat (first | exact O0.out | refine Only.alloc ?_ _)
set_option maxRecDepth 100000 in
theorem alone6 (n : Int) (w : World) : Calls Tryz.prog 67 #[.iface 75 (.agg #[.int .i64 n])] w fun e w' => e = .returned (.bool (decide (1 ≤ n) && decide (n ≤ 1048576))) ∧ Only (fun _ => False) w w' := by
  have mi := va_miss 75 63 27 _ Tryz.underlying63 (by intro m h; cases h) (by decide) _ zI
  have ms := va_miss 75 65 27 _ Tryz.underlying65 (by intro m h; cases h) (by decide) _ zS
  have hi := va_hit 75 27 _ Tryz.underlying75 (by intro m h; cases h)
  have O0 : Hid (Only (fun _ => False) w w) := Only.refl _ _
  by_cases h1 : (1 : Int) ≤ n
  · rw [decide_eq_true h1]
    go_enter Tryz.func67, Tryz.ntmps67
    go_wp2
    all_goals
      go_ret
      refine ⟨by simp, ?_⟩
      repeat (first | exact O0.out | refine Only.alloc ?_ _)
  · rw [decide_eq_false h1]
    go_enter Tryz.func67, Tryz.ntmps67
    go_wp2
    all_goals
      go_ret
      refine ⟨by simp, ?_⟩
      repeat (first | exact O0.out | refine Only.alloc ?_ _)
set_option maxRecDepth 100000 in
theorem alone3 (b : Bool) (w : World) : Calls Tryz.prog 67 #[.iface 67 (.agg #[.bool b])] w fun e w' => e = .returned (.bool true) ∧ Only (fun _ => False) w w' := by
  have mi := va_miss 67 63 27 _ Tryz.underlying63 (by intro m h; cases h) (by decide) _ zI
  have ms := va_miss 67 65 27 _ Tryz.underlying65 (by intro m h; cases h) (by decide) _ zS
  have mb := va_miss 67 75 27 _ Tryz.underlying75 (by intro m h; cases h) (by decide) _ zB
  have hi := va_hit 67 27 _ Tryz.underlying67 (by intro m h; cases h)
  have O0 : Hid (Only (fun _ => False) w w) := Only.refl _ _
  go_enter Tryz.func67, Tryz.ntmps67
  go_wp2
  all_goals
    go_ret
    refine ⟨rfl, ?_⟩
    repeat (first | exact O0.out | refine Only.alloc ?_ _)
/-- of any that is no list and no quotation -/
theorem alone_any {S : Nat → Prop} {d : Nat} {t : Vt} {v : Value} {w : World} (h : TiAt w S d false t v) (hk : ¬ (t.k = 4 ∨ t.k = 5)) (hs : t.s.size ≤ 268435456) : ∀ w1, Tb w1 → Calls Tryz.prog 67 #[v] w1 fun e w' => e = .returned (.bool (alB t)) ∧ Only (fun _ => False) w1 w' := by
  intro w1 hT
  obtain ⟨k, n, s, l⟩ := t
  cases d with
  | zero => exact h.elim
  | succ d =>
    rcases h with ⟨e, _, rfl⟩ | ⟨e, _, rfl⟩ | ⟨e, _, rfl⟩ | ⟨e, _, rfl⟩ | ⟨e, _, rfl⟩ | ⟨e, _⟩
    · simp only at e
      subst e
      exact alone1 n w1
    · simp only at e
      subst e
      exact alone2 s hs w1 hT
    · simp only at e
      subst e
      exact alone3 _ w1
    · simp only at e
      subst e
      exact alone6 n w1
    · simp only at e
      subst e
      exact alone_bad _ bad_nil w1
    · exact absurd e hk
end Go.Proofs.YtllpacppedobjaaGreatDoor
