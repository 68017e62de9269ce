/- parse's writer: words, and the whole text. The text of the number 7, as parse writes it. The text of the number 7. -/
import Derived.Test.YthlloenonjagbaaGreatDoorGag
namespace Go.Proofs.YthlloenonjagbaaGreatDoor
open Go.RowKit Go.Lib
set_option linter.unusedSimpArgs false
set_option linter.unusedVariables false
set_option maxHeartbeats 2000000 in
set_option maxRecDepth 100000 in
/-- the text, if there is one -/
theorem wstring_any (B b : Nat) (l : List UInt8) (bg : Bool) (w : World) (h : WrU B b (Lib.byteCells l) bg w) (h0 : l ≠ []) :
    Calls Tryz.prog 56 #[.pointer (some ⟨b, 0, none⟩)] w fun e w' => e = .returned (.string ⟨l.toArray⟩) ∧ Below B w w' := by
  obtain ⟨hB, p, v, hbk, hp, hown, hne⟩ := h
  have hl0 : l.length ≠ 0 := by simpa using h0
  rw [Lib.byteCells_length] at hown
  obtain ⟨g, cap, cur, fz, rfl, hbg, hg, hfz, hnc, hcm, hcs, htake⟩ : ∃ g cap cur fz, v = .slice (some ⟨g, 0, none⟩) l.length cap ∧ B ≤ g ∧ w.heap[g]? = some (.cells cur 5 fz) ∧ fz.2 ≤ l.length * 1 ∧ l.length ≤ cap ∧ cap ≤ maxLen ∧ cur.size = cap * 1 ∧ cur.toList.take (l.length * 1) = Lib.byteCells l := by
    rcases hown.2 with ⟨_, hz⟩ | ⟨g, cap, cur, fz, hv, r⟩
    · exact absurd hz hl0
    · exact ⟨g, cap, cur, fz, hv, r⟩
  have hbk' : w.drew.heap[b]? = some (.cells #[p, .slice (some ⟨g, 0, none⟩) l.length cap, .bool bg] 169) := hbk
  have c1 := wr_cell hbk' 1
  simp only [List.getElem?_toArray, List.getElem?_cons_zero, List.getElem?_cons_succ] at c1
  have hSD : (Builtin.unsafeSliceData_ #[114] 150 #[.slice (some ⟨g, 0, none⟩) l.length cap]).run Tryz.prog w.drew = .ok (.pointer (some ⟨g, 0, none⟩)) w.drew :=
    run_unsafeSliceData_row _ _ _ _ _ _ (by omega)
  have hUS : (Builtin.unsafeString_ #[150, 3] 9 #[.pointer (some ⟨g, 0, none⟩), .int .i64 l.length]).run Tryz.prog w.drew = .ok (.string ⟨l.toArray⟩) (w.drew.freeze ⟨g, 0, none⟩ l.length) := by
    refine run_unsafeString_row w.drew 150 3 9 5 Tryz.underlying150 (by kernel_rfl) g cur.size (by have hg' : w.drew.heap[g]? = some (.cells cur 5 fz) := hg; simp [World.shape?, hg']) l h0 (by omega) (by unfold maxLen at hcm; omega) ?_
    intro j x hx
    have := hown.cells (g := g) rfl j (.int .u8 x.toNat) (by simp [Lib.byteCells, hx])
    exact this
  go_enter Tryz.func56, Tryz.ntmps56
  go_wp2
  go_region
  all_goals (go_wp2; go_ret; exact ⟨rfl, below_freeze (Below.drew (Below.refl B w)) (p := ⟨g, 0, none⟩) hbg _⟩)
set_option maxRecDepth 100000 in
theorem wwhole_any (B b : Nat) (l : List UInt8) (bg : Bool) (w : World) (h : WrU B b (Lib.byteCells l) bg w) (h0 : l ≠ []) (h1 : l.length ≤ 65536) :
    Calls Tryz.prog 97 #[.pointer (some ⟨b, 0, none⟩)] w fun e w' => e = .returned (.tuple #[.string ⟨l.toArray⟩, .int .i64 0]) ∧ Below B w w' := by
  have HF : Hid (Calls Tryz.prog 108 #[.pointer (some ⟨b, 0, none⟩)] w fun e w' => e = .returned (.bool false) ∧ w' = w) := by
    have := wfull_any B b _ bg w h
    rwa [show decide (65536 < ((Lib.byteCells l).length : Int)) = false by rw [Lib.byteCells_length]; simp; omega] at this
  have HS : Hid (Calls Tryz.prog 56 #[.pointer (some ⟨b, 0, none⟩)] w fun e w' => e = .returned (.string ⟨l.toArray⟩) ∧ Below B w w') := wstring_any B b l bg w h h0
  clear h h0 h1
  go_enter Tryz.func97, Tryz.ntmps97
  go_wp2_with fail
  refine (show Calls Tryz.prog 108 _ _ _ from HF.out).mono ?_
  rintro e w1 ⟨rfl, rfl⟩
  clear HF
  go_wp2_with fail
  refine (show Calls Tryz.prog 56 _ _ _ from HS.out).mono ?_
  rintro e w2 ⟨rfl, b2⟩
  have B2 : Hid (Below B w1 w2) := b2
  clear HS b2
  go_wp2
  go_ret2
  exact ⟨rfl, B2.out⟩
theorem WrU.begun {B b : Nat} {bs : List Value} {bg : Bool} {w : World} (h : WrU B b bs bg w) (y : Bool) : WrU B b bs y (w.setCell ⟨b, 2, none⟩ (.bool y)) ∧ Only (fun k => k = b) w (w.setCell ⟨b, 2, none⟩ (.bool y)) := by
  obtain ⟨h1, p, v, h2, h3, h4, h5⟩ := h
  have o : Only (fun k => k = b) w (w.setCell ⟨b, 2, none⟩ (.bool y)) := (Only.refl (fun k => k = b) w).setCell _ _ (fun _ => rfl)
  exact ⟨⟨h1, p, v, (heap_setCell_same _ _ _ _ _ _ h2).trans rfl, h3, ownsF_keep h4 o (fun k hk e => h5 (by rw [hk, e])), h5⟩, o⟩
set_option maxRecDepth 100000 in
/-- the first word on a line -/
theorem wword_first (B b : Nat) (bs : List Value) (s : ByteArray) (w : World) (h : WrU B b bs false w) (hf : bs.length ≤ 65536) (hs : s.size ≤ 1000000) (hBw : B ≤ w.heap.size) :
    Calls Tryz.prog 113 #[.pointer (some ⟨b, 0, none⟩), .string s] w fun e w' => e = .returned (.tuple #[]) ∧ Hid (WrU B b (bs ++ strCells s) true w' ∧ Only (fun k => B ≤ k) w w') := by
  have HA : Hid (Calls Tryz.prog 121 #[.pointer (some ⟨b, 0, none⟩), .string s] w fun e w' => e = .returned (.tuple #[]) ∧ Hid (WrU B b (bs ++ strCells s) false w' ∧ Only (fun k => B ≤ k) w w')) := wadd_any B b bs false s w h hf hs hBw
  obtain ⟨hB, p, v, hbk, _, _, _⟩ := h
  have c2 := wr_cell hbk 2
  simp only [List.getElem?_toArray, List.getElem?_cons_zero, List.getElem?_cons_succ] at c2
  have HB : Hid (B ≤ b) := hB
  clear hbk hf hs hBw hB
  go_enter Tryz.func113, Tryz.ntmps113
  go_wp2_with fail
  refine (show Calls Tryz.prog 121 _ _ _ from HA.out).mono ?_
  rintro e w1 ⟨rfl, g1⟩
  obtain ⟨_, p1, v1, hb1, _, _, _⟩ := id g1.out.1
  have d2 := wr_cell hb1 2
  have f2 := wr_froz hb1 2
  simp only [List.getElem?_toArray, List.getElem?_cons_zero, List.getElem?_cons_succ] at d2
  clear HA c2 hb1
  go_wp2
  go_end0
  obtain ⟨q1, q2⟩ := g1.out.1.begun true
  exact ⟨rfl, q1, g1.out.2.trans q2 (fun k hk e => by have : B ≤ b := HB.out; omega)⟩
end Go.Proofs.YthlloenonjagbaaGreatDoor
namespace Go.Proofs.YthlloenonjagbaaGreatDoor
open Go.RowKit Go.Lib
set_option linter.unusedSimpArgs false
set_option linter.unusedVariables false
theorem va_hit (T xt : TypeId) (D : TypeDesc) (hD : Tryz.prog.underlying T = some D) (hn : ∀ m, D ≠ .interface m) (x : Value) (W : World) : (Instr.typeAssert (.iface T x) xt T true).run Tryz.prog W = .ok (.tuple #[x, .bool true]) W := by
  simp only [Instr.typeAssert, Sem.run_bind, run_underlying hD, Result.andThen_ok]
  cases D <;> simp_all
theorem va_miss (T U xt : TypeId) (D : TypeDesc) (hD : Tryz.prog.underlying U = some D) (hn : ∀ m, D ≠ .interface m) (hT : T ≠ U) (z : Value) (hz : ∀ W : World, (zeroValue U).run Tryz.prog W = .ok z W) (x : Value) (W : World) : (Instr.typeAssert (.iface T x) xt U true).run Tryz.prog W = .ok (.tuple #[z, .bool false]) W := by
  simp only [Instr.typeAssert, Sem.run_bind, run_underlying hD, Result.andThen_ok]
  cases D <;> simp_all
theorem va_at (W : World) (o : Obj) (n : Nat) (h : n = W.heap.size) : (W.alloc o).heap[n]? = some o := by
  subst h
  exact Array.getElem?_push_size ..
/-- the number 7 as a value, and as an item -/
abbrev i7 : Value := .iface 59 (.agg #[.int .i64 7])
abbrev p7 : Value := .iface 108 (.agg #[i7])
set_option maxRecDepth 100000 in
theorem small7 (w : World) : Calls Tryz.prog 131 #[.int .i64 7] w fun e w' => e = .returned (.string ⟨#[55]⟩) ∧ w' = w := by
  go_enter Tryz.func131, Tryz.ntmps131
  go_wp2
  go_ret
  exact ⟨rfl, rfl⟩
set_option maxRecDepth 100000 in
theorem ifmt7 (w : World) : Calls Tryz.prog 126 #[.int .i64 7, .int .i64 10] w fun e w' => e = .returned (.string ⟨#[55]⟩) ∧ w' = w := by
  have HS : Hid (∀ w1, Calls Tryz.prog 131 #[.int .i64 7] w1 fun e w' => e = .returned (.string ⟨#[55]⟩) ∧ w' = w1) := small7
  go_enter Tryz.func126, Tryz.ntmps126
  go_wp2_with fail
  refine (show Calls Tryz.prog 131 _ _ _ from HS.out _).mono ?_
  rintro e w1 ⟨rfl, rfl⟩
  clear HS
  go_wp2
  go_ret
  exact ⟨rfl, rfl⟩
set_option maxRecDepth 100000 in
theorem fmt7 (w : World) : Calls Tryz.prog 118 #[.int .i64 7, .int .i64 10] w fun e w' => e = .returned (.string ⟨#[55]⟩) ∧ w' = w := by
  have HS : Hid (∀ w1, Calls Tryz.prog 126 #[.int .i64 7, .int .i64 10] w1 fun e w' => e = .returned (.string ⟨#[55]⟩) ∧ w' = w1) := ifmt7
  go_enter Tryz.func118, Tryz.ntmps118
  go_wp2_with fail
  refine (show Calls Tryz.prog 126 _ _ _ from HS.out _).mono ?_
  rintro e w1 ⟨rfl, rfl⟩
  clear HS
  go_wp2
  go_ret
  exact ⟨rfl, rfl⟩
/-- what is left to be counted -/
def MlB (w : World) (M : Nat) (k : Int) : Prop := w.heap[M]? = some (.cells #[.int .i64 k] 210)
set_option maxRecDepth 100000 in
theorem pmore_any (M : Nat) (k : Int) (w : World) (h : MlB w M k) (h1 : 1 ≤ k) (h2 : k ≤ 1024) : Calls Tryz.prog 116 #[.pointer (some ⟨M, 0, none⟩)] w fun e w' => e = .returned (.bool true) ∧ Only (fun b => b = M) w w' ∧ MlB w' M (k - 1) := by
  have c0 := wr_cell h 0
  have f0 := wr_froz h 0
  simp only [List.getElem?_toArray, List.getElem?_cons_zero] at c0
  have HM : Hid (MlB w M k) := h
  have i1 : (0 : Int) ≤ k - 1 := by omega
  clear h
  go_enter Tryz.func116, Tryz.ntmps116
  go_wp2
  go_ret
  exact ⟨by simp [i1], (Only.refl (fun b => b = M) w).setCell _ _ (fun _ => rfl), (heap_setCell_same _ _ _ _ _ _ HM.out).trans rfl⟩
set_option maxRecDepth 100000 in
theorem pval7 (M : Nat) (w : World) (h : MlB w M 1024) : Calls Tryz.prog 115 #[.pointer (some ⟨M, 0, none⟩), i7, .int .i64 32] w fun e w' => e = .returned (.bool true) ∧ Only (fun b => b = M) w w' := by
  have HM : Hid (Calls Tryz.prog 116 #[.pointer (some ⟨M, 0, none⟩)] w fun e w' => e = .returned (.bool true) ∧ Only (fun b => b = M) w w' ∧ MlB w' M (1024 - 1)) := pmore_any M 1024 w h (by omega) (by omega)
  have hInt := va_hit 59 27 _ Tryz.underlying59 (by intro m h; cases h)
  clear h
  go_enter Tryz.func115, Tryz.ntmps115
  go_wp2_with fail
  refine (show Calls Tryz.prog 116 _ _ _ from HM.out).mono ?_
  rintro e w1 ⟨rfl, o1, _⟩
  have O1 : Hid (Only (fun b => b = M) w w1) := o1
  clear HM o1
  go_wp2
  all_goals
    go_ret
    exact ⟨rfl, O1.out.alloc _⟩
set_option maxRecDepth 100000 in
theorem pitem7 (M : Nat) (w : World) (h : MlB w M 1024) : Calls Tryz.prog 111 #[.pointer (some ⟨M, 0, none⟩), p7, .int .i64 32] w fun e w' => e = .returned (.bool true) ∧ Only (fun b => b = M) w w' := by
  have HV : Hid (∀ w1, Only (fun _ => False) w w1 → Calls Tryz.prog 115 #[.pointer (some ⟨M, 0, none⟩), i7, .int .i64 32] w1 fun e w' => e = .returned (.bool true) ∧ Only (fun b => b = M) w1 w') := fun w1 o => pval7 M w1 ((o.block M (Array.getElem?_eq_some_iff.1 h).1 (fun g => g)).trans h)
  have hP := va_hit 108 94 _ Tryz.underlying108 (by intro m h; cases h)
  have O0 : Hid (Only (fun _ => False) w w) := Only.refl _ _
  clear h
  go_enter Tryz.func111, Tryz.ntmps111
  go_wp2_with fail
  refine (show Calls Tryz.prog 115 _ _ _ from HV.out _ (O0.out.alloc _)).mono ?_
  rintro e w1 ⟨rfl, o1⟩
  have O1 : Hid (Only (fun b => b = M) w w1) := ((Only.refl (fun b => b = M) w).alloc _).trans o1 (fun _ _ g => g)
  clear HV o1
  go_wp2
  go_ret
  exact ⟨rfl, O1.out⟩
set_option maxRecDepth 100000 in
theorem psound7 (w : World) : Calls Tryz.prog 106 #[p7] w fun e w' => e = .returned (.bool true) ∧ Only (fun _ => False) w w' := by
  have HI : Hid (Calls Tryz.prog 111 #[.pointer (some ⟨w.heap.size, 0, none⟩), p7, .int .i64 32] (w.alloc (.cells #[.int .i64 1024] 210)) fun e w' => e = .returned (.bool true) ∧ Only (fun b => b = w.heap.size) (w.alloc (.cells #[.int .i64 1024] 210)) w') := pitem7 _ _ (va_at _ _ _ rfl)
  go_enter Tryz.func106, Tryz.ntmps106
  go_wp2_with fail
  refine (show Calls Tryz.prog 111 _ _ _ from HI.out).mono ?_
  rintro e w1 ⟨rfl, o1⟩
  have O1 : Hid (Only (fun _ => False) w w1) := ((Only.refl (fun _ => False) w).alloc _).trans o1 (fun k hk e => by omega)
  clear HI o1
  go_wp2
  go_ret
  exact ⟨rfl, O1.out⟩
set_option maxRecDepth 100000 in
theorem psounds7 (w : World) (g : Nat) (hg : w.cell? ⟨g, 0, none⟩ = some p7) : Calls Tryz.prog 95 #[.slice (some ⟨g, 0, none⟩) 1 1] w fun e w' => e = .returned (.bool true) ∧ Only (fun _ => False) w w' := by
  have HI : Hid (∀ w1, Calls Tryz.prog 106 #[p7] w1 fun e w' => e = .returned (.bool true) ∧ Only (fun _ => False) w1 w') := psound7
  go_enter Tryz.func95, Tryz.ntmps95
  go_wp2
  go_loopw [7] (fun r wr => ∃ i : Int, r = .int .i64 i ∧ (i = 0 ∨ i = 1) ∧ Hid (Only (fun _ => False) w wr)) (fun r _ => 1 - uOf r)
  case atStart => exact ⟨0, rfl, .inl rfl, Only.refl _ _⟩
  case round =>
    obtain ⟨i, rfl, hi, HO⟩ := hrel
    obtain ⟨w1, rfl⟩ : ∃ w1, w1 = wr := ⟨_, rfl⟩
    rcases hi with rfl | rfl
    · have hg1 := HO.out.cell hg (fun h => h)
      go_wp2_with fail
      refine (show Calls Tryz.prog 106 _ _ _ from HI.out _).mono ?_
      rintro e w2 ⟨rfl, o2⟩
      have O2 : Hid (Only (fun _ => False) w w2) := HO.out.trans o2 (fun _ _ g => g)
      clear HI o2 hg1 HO
      go_wp2
      go_roundw
      case rel => exact ⟨1, rfl, .inr rfl, O2⟩
      case measure => simp [uOf]
    · go_wp2
      go_ret
      exact ⟨rfl, HO.out⟩
end Go.Proofs.YthlloenonjagbaaGreatDoor
namespace Go.Proofs.YthlloenonjagbaaGreatDoor
open Go.RowKit Go.Lib
set_option linter.unusedSimpArgs false
set_option linter.unusedVariables false
theorem WrU.alloc {B b : Nat} {bs : List Value} {bg : Bool} {w : World} (h : WrU B b bs bg w) (o : Obj) : WrU B b bs bg (w.alloc o) := h.only ((Only.refl _ w).alloc _)
set_option maxRecDepth 100000 in
theorem wval7 (B b : Nat) (w : World) (h : WrU B b [] false w) (hBw : B ≤ w.heap.size) : Calls Tryz.prog 112 #[.pointer (some ⟨b, 0, none⟩), i7] w fun e w' => e = .returned (.tuple #[]) ∧ Hid (WrU B b (Lib.byteCells [55]) true w' ∧ Only (fun k => B ≤ k) w w') := by
  have HF : Hid (Calls Tryz.prog 108 #[.pointer (some ⟨b, 0, none⟩)] w fun e w' => e = .returned (.bool false) ∧ w' = w) := by
    have := wfull_any B b _ false w h
    rwa [show decide (65536 < (([] : List Value).length : Int)) = false by simp] at this
  have HI : Hid (∀ w1, Calls Tryz.prog 118 #[.int .i64 7, .int .i64 10] w1 fun e w' => e = .returned (.string ⟨#[55]⟩) ∧ w' = w1) := fmt7
  have HW : Hid (Calls Tryz.prog 113 #[.pointer (some ⟨b, 0, none⟩), .string ⟨#[55]⟩] (w.alloc (.cells #[.int .i64 7] 59)) fun e w' => e = .returned (.tuple #[]) ∧ Hid (WrU B b (Lib.byteCells [55]) true w' ∧ Only (fun k => B ≤ k) (w.alloc (.cells #[.int .i64 7] 59)) w')) := (wword_first B b [] ⟨#[55]⟩ _ (h.alloc _) (by simp) (by decide) (by simp; omega)).mono fun e w' g => ⟨g.1, by simpa [strCells, Lib.byteCells] using g.2.out.1, g.2.out.2⟩
  have hInt := va_hit 59 27 _ Tryz.underlying59 (by intro m h; cases h)
  have O0 : Hid (Only (fun k => B ≤ k) w (w.alloc (.cells #[.int .i64 7] 59))) := (Only.refl (fun k => B ≤ k) w).alloc _
  clear h hBw
  go_enter Tryz.func112, Tryz.ntmps112
  go_wp2_with fail
  refine (show Calls Tryz.prog 108 _ _ _ from HF.out).mono ?_
  rintro e w1 ⟨rfl, rfl⟩
  clear HF
  go_wp2_with fail
  refine (show Calls Tryz.prog 118 _ _ _ from HI.out _).mono ?_
  rintro e w2 ⟨rfl, rfl⟩
  clear HI
  go_wp2_with fail
  refine (show Calls Tryz.prog 113 _ _ _ from HW.out).mono ?_
  rintro e w3 ⟨rfl, g3⟩
  clear HW
  go_wp2
  go_end0
  exact ⟨rfl, g3.out.1, O0.out.trans g3.out.2 (fun _ _ g => g)⟩
set_option maxRecDepth 100000 in
theorem witem7 (B b : Nat) (w : World) (h : WrU B b [] false w) (hBw : B ≤ w.heap.size) : Calls Tryz.prog 107 #[.pointer (some ⟨b, 0, none⟩), p7] w fun e w' => e = .returned (.tuple #[]) ∧ Hid (WrU B b (Lib.byteCells [55]) true w' ∧ Only (fun k => B ≤ k) w w') := by
  have HV : Hid (Calls Tryz.prog 112 #[.pointer (some ⟨b, 0, none⟩), i7] (w.alloc (.cells #[i7] 108)) fun e w' => e = .returned (.tuple #[]) ∧ Hid (WrU B b (Lib.byteCells [55]) true w' ∧ Only (fun k => B ≤ k) (w.alloc (.cells #[i7] 108)) w')) := wval7 B b _ (h.alloc _) (by simp; omega)
  have hP := va_hit 108 94 _ Tryz.underlying108 (by intro m h; cases h)
  have O0 : Hid (Only (fun k => B ≤ k) w (w.alloc (.cells #[i7] 108))) := (Only.refl (fun k => B ≤ k) w).alloc _
  clear h hBw
  go_enter Tryz.func107, Tryz.ntmps107
  go_wp2_with fail
  refine (show Calls Tryz.prog 112 _ _ _ from HV.out).mono ?_
  rintro e w1 ⟨rfl, g1⟩
  clear HV
  go_wp2
  go_end0
  exact ⟨rfl, g1.out.1, O0.out.trans g1.out.2 (fun _ _ g => g)⟩
set_option maxRecDepth 100000 in
theorem witems7 (B b g : Nat) (w : World) (h : WrU B b [] false w) (hBw : B ≤ w.heap.size) (hg : w.cell? ⟨g, 0, none⟩ = some p7) : Calls Tryz.prog 96 #[.pointer (some ⟨b, 0, none⟩), .slice (some ⟨g, 0, none⟩) 1 1] w fun e w' => e = .returned (.tuple #[]) ∧ Hid (WrU B b (Lib.byteCells [55]) true w' ∧ Only (fun k => B ≤ k) w w') := by
  have HI : Hid (Calls Tryz.prog 107 #[.pointer (some ⟨b, 0, none⟩), p7] w fun e w' => e = .returned (.tuple #[]) ∧ Hid (WrU B b (Lib.byteCells [55]) true w' ∧ Only (fun k => B ≤ k) w w')) := witem7 B b w h hBw
  clear h hBw
  go_enter Tryz.func96, Tryz.ntmps96
  go_wp2
  go_loopw [8] (fun r wr => (r = .int .i64 0 ∧ wr = w) ∨ (r = .int .i64 1 ∧ Hid (WrU B b (Lib.byteCells [55]) true wr ∧ Only (fun k => B ≤ k) w wr))) (fun r _ => 1 - uOf r)
  case atStart => exact .inl ⟨rfl, rfl⟩
  case round =>
    rcases hrel with ⟨rfl, rfl⟩ | ⟨rfl, HO⟩
    · go_wp2_with fail
      refine (show Calls Tryz.prog 107 _ _ _ from HI.out).mono ?_
      rintro e w2 ⟨rfl, g2⟩
      clear HI hg
      go_wp2
      go_roundw
      case rel => exact .inr ⟨rfl, g2⟩
      case measure => simp [uOf]
    · obtain ⟨w1, rfl⟩ : ∃ w1, w1 = wr := ⟨_, rfl⟩
      go_wp2
      go_end0
      exact ⟨rfl, HO⟩
set_option maxRecDepth 100000 in
theorem text7 (g : Nat) (w : World) (hg : w.cell? ⟨g, 0, none⟩ = some p7) : Calls Tryz.prog 82 #[.slice (some ⟨g, 0, none⟩) 1 1] w fun e w' => e = .returned (.tuple #[.string ⟨#[55]⟩, .int .i64 0]) ∧ Only (fun _ => False) w w' := by
  have HS : Hid (Calls Tryz.prog 95 #[.slice (some ⟨g, 0, none⟩) 1 1] w fun e w' => e = .returned (.bool true) ∧ Only (fun _ => False) w w') := psounds7 w g hg
  have HG : Hid (w.cell? ⟨g, 0, none⟩ = some p7) := hg
  clear hg
  go_enter Tryz.func82, Tryz.ntmps82
  go_wp2_with fail
  refine (show Calls Tryz.prog 95 _ _ _ from HS.out).mono ?_
  rintro e w1 ⟨rfl, o1⟩
  have O1 : Hid (Only (fun _ => False) w w1) := o1
  obtain ⟨b, hb⟩ : ∃ b, b = w1.heap.size := ⟨_, rfl⟩
  obtain ⟨W2, hW2⟩ : ∃ W2, W2 = w1.alloc (.cells #[.pointer none, .slice none 0 0, .bool false] 169) := ⟨_, rfl⟩
  have A2 : WrU b b [] false W2 := ⟨Nat.le_refl _, .pointer none, .slice none 0 0, by rw [hW2]; exact va_at _ _ _ hb, .inl rfl, ⟨rfl, .inl ⟨rfl, rfl⟩⟩, by simp [Value.ownBlock]⟩
  have o2 : Only (fun _ => False) w1 W2 := by rw [hW2]; exact (Only.refl _ w1).alloc _
  have HI : Hid (Calls Tryz.prog 96 #[.pointer (some ⟨b, 0, none⟩), .slice (some ⟨g, 0, none⟩) 1 1] W2 fun e w' => e = .returned (.tuple #[]) ∧ Hid (WrU b b (Lib.byteCells [55]) true w' ∧ Only (fun k => b ≤ k) W2 w')) := witems7 b b g W2 A2 (by rw [hW2]; simp; omega) ((O1.out.trans o2 (fun _ _ g => g)).cell HG.out (fun h => h))
  have H2 : Hid (Only (fun _ => False) w W2 ∧ w.heap.size ≤ b) := ⟨O1.out.trans o2 (fun _ _ g => g), by rw [hb]; exact O1.out.size⟩
  clear HS o1 A2 o2 O1 HG
  go_wp2_with fail
  rw [← hb, ← hW2]
  refine (show Calls Tryz.prog 96 _ _ _ from HI.out).mono ?_
  rintro e w3 ⟨rfl, g3⟩
  have HW : Hid (Calls Tryz.prog 97 #[.pointer (some ⟨b, 0, none⟩)] w3 fun e w' => e = .returned (.tuple #[.string ⟨#[55]⟩, .int .i64 0]) ∧ Below b w3 w') := wwhole_any b b [55] true w3 g3.out.1 (by simp) (by simp)
  have O3 : Hid (Only (fun _ => False) w w3) := H2.out.1.trans g3.out.2 (fun k hk e => by have := H2.out.2; omega)
  clear HI g3 hW2 hb
  go_wp2_with fail
  refine (show Calls Tryz.prog 97 _ _ _ from HW.out).mono ?_
  rintro e w4 ⟨rfl, b4⟩
  have O4 : Hid (Only (fun _ => False) w w4) := O3.out.trans (⟨b4.os, b4.tape, b4.output, b4.size, fun k hk hn => b4.block k (by omega)⟩ : Only (fun k => b ≤ k) w3 w4) (fun k hk e => by have := H2.out.2; omega)
  clear HW b4 O3
  go_wp2
  go_ret2
  exact ⟨rfl, O4.out⟩
end Go.Proofs.YthlloenonjagbaaGreatDoor
