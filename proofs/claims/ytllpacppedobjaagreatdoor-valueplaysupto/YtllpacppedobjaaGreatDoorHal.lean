/- The text of a value that holds no others, as parse writes it. value.Text of the number 7. The text of an item that pushes a value without parts; value.word. The words of a value's text. -/
import Derived.Test.YtllpacppedobjaaGreatDoorHad
import Derived.Test.YtllpacppedobjaaGreatDoorHai
import Derived.Test.YtllpacppedobjaaGreatDoorHak
import Derived.Lib.ItoaLen
import Derived.Test.YtllpacppedobjaaGreatDoorHae
namespace Go.Proofs.YtllpacppedobjaaGreatDoor
open Go.RowKit Go.Lib
set_option linter.unusedSimpArgs false
set_option linter.unusedVariables false
/-- the table of the powers of ten, as it begins -/
def Pw (w : World) : Prop := Lib.TabIs Tryz.prog w "internal/strconv.uint64pow10" .u64 Lib.pow10Tab
def Tx (w : World) : Prop := Tb w ∧ Pw w
theorem Pw.frame {w w' : World} (h : Pw w) (o : Only (fun _ => False) w w') : Pw w' := by
  unfold Pw Lib.TabIs at *
  unfold World.var? at *
  cases hg : Tryz.prog.globalNamed "internal/strconv.uint64pow10" with
  | none => rw [hg] at h; simp at h
  | some g =>
    rw [hg] at h
    simp only [Option.bind_some] at h ⊢
    cases hb : w.heap[g]? with
    | none => rw [hb] at h; simp at h
    | some ob =>
      rw [hb] at h
      rw [o.block g (Array.getElem?_eq_some_iff.1 hb).1 (fun g => g), hb]
      exact h
theorem Tx.frame {w w' : World} (h : Tx w) (o : Only (fun _ => False) w w') : Tx w' := ⟨h.1.frame o, h.2.frame o⟩
theorem only_grow {w : World} (k : Nat) (os : Array Obj) : Only (fun _ => False) w (Go.Sort.grow (w.drewN k) os) := by
  refine ⟨rfl, rfl, rfl, ?_, fun i hi _ => ?_⟩
  · show w.heap.size ≤ (w.heap ++ os).size
    rw [Array.size_append]
    omega
  · show (w.heap ++ os)[i]? = w.heap[i]?
    rw [Array.getElem?_append_left hi]
theorem fmt_any (n : Int) (h0 : -9223372036854775808 ≤ n) (h1 : n ≤ 9223372036854775807) (w : World) (h : Pw w) : Calls Tryz.prog 94 #[.int .i64 n, .int .i64 10] w fun e w' => e = .returned (.string ⟨(Lib.itoa n).toArray⟩) ∧ Only (fun _ => False) w w' :=
  (Any.strconv_FormatInt_10 Tryz.laysFmt n h0 h1 w h).mono fun e w' ⟨he, k, os, hw⟩ => ⟨he, by rw [hw]; exact only_grow k os⟩
/-- a value is sound as parse has it; and what is written of it -/
def PsV (v : Value) : Prop := ∀ (M : Nat) (w : World), Tb w → MlB w M 1024 → Mg M → Calls Tryz.prog 91 #[.pointer (some ⟨M, 0, none⟩), v, .int .i64 32] w fun e w' => e = .returned (.bool true) ∧ Only (fun b => b = M) w w'
def WvV (v : Value) (t : ByteArray) : Prop := ∀ (B b : Nat) (w : World), Tx w → WrU B b [] false w → B ≤ w.heap.size → Calls Tryz.prog 88 #[.pointer (some ⟨b, 0, none⟩), v] w fun e w' => e = .returned (.tuple #[]) ∧ Hid (WrU B b (strCells t) true w' ∧ Only (fun k => B ≤ k) w w')
theorem mlB_keep {w w' : World} {M : Nat} {k : Int} (h : MlB w M k) (o : Only (fun _ => False) w w') : MlB w' M k := (o.block M (Array.getElem?_eq_some_iff.1 h).1 (fun g => g)).trans h
set_option maxRecDepth 100000 in
theorem ps_int (n : Int) (h1 : -1152921504606846976 ≤ n) (h2 : n ≤ 1152921504606846975) : PsV (.iface 63 (.agg #[.int .i64 n])) := by
  intro M w _ h _
  have HM : Hid (Calls Tryz.prog 92 #[.pointer (some ⟨M, 0, none⟩)] w fun e w' => e = .returned (.bool true) ∧ Only (fun b => b = M) w w' ∧ MlB w' M (1024 - 1)) := pmore_any M 1024 w h (by omega) (by omega)
  have hInt := va_hit 63 27 _ Tryz.underlying63 (by intro m h; cases h)
  clear h
  go_enter Tryz.func91, Tryz.ntmps91
  go_wp2_with fail
  refine (show Calls Tryz.prog 92 _ _ _ from HM.out).mono ?_
  rintro e w1 ⟨rfl, o1, _⟩
  have O1 : Hid (Only (fun b => b = M) w w1) := o1
  clear HM o1
  go_wp2
  all_goals
    go_ret
    exact ⟨by simp [*], O1.out.alloc _⟩
set_option maxRecDepth 100000 in
theorem ps_bool (b : Bool) : PsV (.iface 67 (.agg #[.bool b])) := by
  intro M w _ h _
  have HM : Hid (Calls Tryz.prog 92 #[.pointer (some ⟨M, 0, none⟩)] w fun e w' => e = .returned (.bool true) ∧ Only (fun b => b = M) w w' ∧ MlB w' M (1024 - 1)) := pmore_any M 1024 w h (by omega) (by omega)
  have hInt := va_miss 67 63 27 _ Tryz.underlying63 (by intro m h; cases h) (by decide) _ zI
  have hStr := va_miss 67 65 27 _ Tryz.underlying65 (by intro m h; cases h) (by decide) _ zS
  have hBl := va_hit 67 27 _ Tryz.underlying67 (by intro m h; cases h)
  clear h
  go_enter Tryz.func91, Tryz.ntmps91
  go_wp2_with fail
  refine (show Calls Tryz.prog 92 _ _ _ from HM.out).mono ?_
  rintro e w1 ⟨rfl, o1, _⟩
  have O1 : Hid (Only (fun b => b = M) w w1) := o1
  clear HM o1
  go_wp2
  all_goals
    go_ret
    refine ⟨by simp [*], ?_⟩
    repeat' first | exact O1.out | apply Only.alloc
set_option maxRecDepth 100000 in
theorem ps_str (s : ByteArray) (h1 : s.size ≤ 4096) (h2 : vlB s = true) : PsV (.iface 65 (.agg #[.string s])) := by
  intro M w hT h hg
  have HM : Hid (Calls Tryz.prog 92 #[.pointer (some ⟨M, 0, none⟩)] w fun e w' => e = .returned (.bool true) ∧ Only (fun b => b = M) w w' ∧ MlB w' M (1024 - 1)) := pmore_any M 1024 w h (by omega) (by omega)
  have HV : Hid (∀ w1, Only (fun b => b = M) w w1 → Calls Tryz.prog 76 #[.string s] w1 fun e w' => e = .returned (.bool true) ∧ Only (fun _ => False) w1 w') := fun w1 o => by
    have := valid_any s (by omega) w1 (hT.keep o hg.1 hg.2.1 hg.2.2)
    rwa [h2] at this
  have hInt := va_miss 65 63 27 _ Tryz.underlying63 (by intro m h; cases h) (by decide) _ zI
  have hStr := va_hit 65 27 _ Tryz.underlying65 (by intro m h; cases h)
  have i1 : (s.size : Int) ≤ 4096 := by omega
  clear h hT hg h1 h2
  go_enter Tryz.func91, Tryz.ntmps91
  go_wp2_with fail
  refine (show Calls Tryz.prog 92 _ _ _ from HM.out).mono ?_
  rintro e w1 ⟨rfl, o1, _⟩
  have O1 : Hid (Only (fun b => b = M) w w1) := o1
  clear HM o1
  go_wp2_with fail
  refine (show Calls Tryz.prog 76 _ _ _ from HV.out _ (by repeat' first | exact O1.out | apply Only.alloc)).mono ?_
  rintro e w2 ⟨rfl, o2⟩
  have O2 : Hid (Only (fun b => b = M) w w2) := Only.trans (by repeat' first | exact O1.out | apply Only.alloc) o2 (fun _ _ g => g.elim)
  clear HV o2
  go_wp2
  go_ret
  exact ⟨rfl, O2.out⟩
theorem wword0 {B b : Nat} {s : ByteArray} (hs : s.size ≤ 1000000) (w1 : World) (h : WrU B b [] false w1) (hB : B ≤ w1.heap.size) : Calls Tryz.prog 89 #[.pointer (some ⟨b, 0, none⟩), .string s] w1 fun e w' => e = .returned (.tuple #[]) ∧ Hid (WrU B b (strCells s) true w' ∧ Only (fun k => B ≤ k) w1 w') := (wword_first B b [] s w1 h (by simp) hs hB).mono fun e w' g => ⟨g.1, by have := g.2.out; rw [List.nil_append] at this; exact this⟩
theorem wfull0 {B b : Nat} {w : World} (h : WrU B b [] false w) : Calls Tryz.prog 86 #[.pointer (some ⟨b, 0, none⟩)] w fun e w' => e = .returned (.bool false) ∧ w' = w := by
  have := wfull_any B b _ false w h
  rwa [show decide (65536 < (([] : List Value).length : Int)) = false by simp] at this
set_option maxRecDepth 100000 in
theorem wv_int (n : Int) (h0 : -9223372036854775808 ≤ n) (h1 : n ≤ 9223372036854775807) : WvV (.iface 63 (.agg #[.int .i64 n])) ⟨(Lib.itoa n).toArray⟩ := by
  intro B b w hT h hBw
  have hz : (⟨(Lib.itoa n).toArray⟩ : ByteArray).size ≤ 1000000 := by
    have := Lib.itoa_length_le n h0 h1
    show (Lib.itoa n).toArray.size ≤ _
    simp
    omega
  obtain ⟨T, hTt⟩ : ∃ T : ByteArray, T = ⟨(Lib.itoa n).toArray⟩ := ⟨_, rfl⟩
  have HF : Hid _ := wfull0 h
  have HI : Hid (∀ w1, Only (fun _ => False) w w1 → Calls Tryz.prog 94 #[.int .i64 n, .int .i64 10] w1 fun e w' => e = .returned (.string T) ∧ Only (fun _ => False) w1 w') := fun w1 o => by
    rw [hTt]
    exact fmt_any n h0 h1 w1 (hT.2.frame o)
  have HW : Hid (∀ w1, Only (fun _ => False) w w1 → Calls Tryz.prog 89 #[.pointer (some ⟨b, 0, none⟩), .string T] w1 fun e w' => e = .returned (.tuple #[]) ∧ Hid (WrU B b (strCells T) true w' ∧ Only (fun k => B ≤ k) w1 w')) := fun w1 o => by
    rw [hTt]
    exact wword0 hz w1 (h.only o) (Nat.le_trans hBw o.size)
  have hInt := va_hit 63 27 _ Tryz.underlying63 (by intro m h; cases h)
  have O0 : Hid (Only (fun _ => False) w w) := Only.refl _ _
  rw [← hTt]
  clear h hBw hT hz hTt h0 h1
  go_enter Tryz.func88, Tryz.ntmps88
  go_wp2_with fail
  refine (show Calls Tryz.prog 86 _ _ _ from HF.out).mono ?_
  rintro e w1 ⟨rfl, hw⟩
  obtain rfl : w = w1 := hw.symm
  clear HF hw
  go_wp2_with fail
  refine (show Calls Tryz.prog 94 _ _ _ from HI.out _ (by repeat' first | exact O0.out | apply Only.alloc)).mono ?_
  rintro e w2 ⟨rfl, o2⟩
  have O2 : Hid (Only (fun _ => False) w w2) := Only.trans (by repeat' first | exact O0.out | apply Only.alloc) o2 (fun _ _ g => g)
  clear HI o2
  go_wp2_with fail
  refine (show Calls Tryz.prog 89 _ _ _ from HW.out _ O2.out).mono ?_
  rintro e w3 ⟨rfl, g3⟩
  clear HW
  go_wp2
  go_end0
  exact ⟨rfl, g3.out.1, (O2.out.mono (fun _ _ h => h.elim)).trans g3.out.2 (fun _ _ g => g)⟩
set_option maxRecDepth 100000 in
theorem wv_str (s : ByteArray) (h1 : s.size ≤ 4096) (h2 : vlB s = true) (hq : (quoR s).1.size ≤ 1000000) : WvV (.iface 65 (.agg #[.string s])) (quoR s).1 := by
  intro B b w hT h hBw
  obtain ⟨T, hTt⟩ : ∃ T, T = (quoR s).1 := ⟨_, rfl⟩
  obtain ⟨E, hE⟩ : ∃ T, T = (quoR s).2 := ⟨_, rfl⟩
  have HF : Hid _ := wfull0 h
  have HI : Hid (∀ w1, Calls Tryz.prog 95 #[.string s] w1 fun e w' => e = .returned (.tuple #[.string T, .int .i64 E]) ∧ Only (fun _ => False) w1 w') := fun w1 => by
    rw [hTt, hE]
    exact (quoted_any s (by omega) w1).mono fun e w' g => ⟨g.1, ⟨g.2.out.os, g.2.out.tape, g.2.out.output, g.2.out.size, fun k hk _ => g.2.out.block k hk⟩⟩
  have HW : Hid (∀ w1, Only (fun _ => False) w w1 → Calls Tryz.prog 89 #[.pointer (some ⟨b, 0, none⟩), .string T] w1 fun e w' => e = .returned (.tuple #[]) ∧ Hid (WrU B b (strCells T) true w' ∧ Only (fun k => B ≤ k) w1 w')) := fun w1 o => by
    rw [hTt]
    exact wword0 hq w1 (h.only o) (Nat.le_trans hBw o.size)
  have hInt := va_miss 65 63 27 _ Tryz.underlying63 (by intro m h; cases h) (by decide) _ zI
  have hStr := va_hit 65 27 _ Tryz.underlying65 (by intro m h; cases h)
  have O0 : Hid (Only (fun _ => False) w w) := Only.refl _ _
  rw [← hTt]
  clear h hBw hT hq hTt h1 h2 hE
  go_enter Tryz.func88, Tryz.ntmps88
  go_wp2_with fail
  refine (show Calls Tryz.prog 86 _ _ _ from HF.out).mono ?_
  rintro e w1 ⟨rfl, hw⟩
  obtain rfl : w = w1 := hw.symm
  clear HF hw
  go_wp2_with fail
  refine (show Calls Tryz.prog 95 _ _ _ from HI.out _).mono ?_
  rintro e w2 ⟨rfl, o2⟩
  have O2 : Hid (Only (fun _ => False) w w2) := Only.trans (by repeat' first | exact O0.out | apply Only.alloc) o2 (fun _ _ g => g)
  clear HI o2
  go_wp2_with fail
  refine (show Calls Tryz.prog 89 _ _ _ from HW.out _ O2.out).mono ?_
  rintro e w3 ⟨rfl, g3⟩
  clear HW
  go_wp2
  go_end0
  exact ⟨rfl, g3.out.1, (O2.out.mono (fun _ _ h => h.elim)).trans g3.out.2 (fun _ _ g => g)⟩
def flT (b : Bool) : ByteArray := if b then ⟨#[116]⟩ else ⟨#[102]⟩
set_option maxRecDepth 100000 in
theorem wflag_any (y : Bool) (B b : Nat) (w : World) (h : WrU B b [] false w) (hBw : B ≤ w.heap.size) : Calls Tryz.prog 96 #[.pointer (some ⟨b, 0, none⟩), .bool y] w fun e w' => e = .returned (.tuple #[]) ∧ Hid (WrU B b (strCells (flT y)) true w' ∧ Only (fun k => B ≤ k) w w') := by
  have HW : Hid (Calls Tryz.prog 89 #[.pointer (some ⟨b, 0, none⟩), .string (flT y)] w fun e w' => e = .returned (.tuple #[]) ∧ Hid (WrU B b (strCells (flT y)) true w' ∧ Only (fun k => B ≤ k) w w')) := wword0 (by cases y <;> decide) w h hBw
  clear h hBw
  cases y
  all_goals
    unfold flT at HW ⊢
    go_enter Tryz.func96, Tryz.ntmps96
    go_wp2_with fail
    refine (show Calls Tryz.prog 89 _ _ _ from HW.out).mono ?_
    rintro e w3 ⟨rfl, g3⟩
    clear HW
    go_wp2
    first | go_end0 | ((try simp only [Exit.inBlock, Exit.then]); refine bodyPost_ret (results_none rfl _ _ _) rfl ?_)
    exact ⟨rfl, g3.out⟩
set_option maxRecDepth 100000 in
theorem wv_bool (y : Bool) : WvV (.iface 67 (.agg #[.bool y])) (flT y) := by
  intro B b w hT h hBw
  have HF : Hid _ := wfull0 h
  have HW : Hid (∀ w1, Only (fun _ => False) w w1 → Calls Tryz.prog 96 #[.pointer (some ⟨b, 0, none⟩), .bool y] w1 fun e w' => e = .returned (.tuple #[]) ∧ Hid (WrU B b (strCells (flT y)) true w' ∧ Only (fun k => B ≤ k) w1 w')) := fun w1 o => wflag_any y B b w1 (h.only o) (Nat.le_trans hBw o.size)
  have hInt := va_miss 67 63 27 _ Tryz.underlying63 (by intro m h; cases h) (by decide) _ zI
  have hStr := va_miss 67 65 27 _ Tryz.underlying65 (by intro m h; cases h) (by decide) _ zS
  have hBl := va_hit 67 27 _ Tryz.underlying67 (by intro m h; cases h)
  have O0 : Hid (Only (fun _ => False) w w) := Only.refl _ _
  obtain ⟨T, hTt⟩ : ∃ T, T = flT y := ⟨_, rfl⟩
  rw [← hTt] at HW ⊢
  clear h hBw hT hTt
  go_enter Tryz.func88, Tryz.ntmps88
  go_wp2_with fail
  refine (show Calls Tryz.prog 86 _ _ _ from HF.out).mono ?_
  rintro e w1 ⟨rfl, hw⟩
  obtain rfl : w = w1 := hw.symm
  clear HF hw
  go_wp2_with fail
  refine (show Calls Tryz.prog 96 _ _ _ from HW.out _ (by repeat' first | exact O0.out | apply Only.alloc)).mono ?_
  rintro e w3 ⟨rfl, g3⟩
  have G3 : Hid (WrU B b (strCells T) true w3 ∧ Only (fun k => B ≤ k) w w3) := ⟨g3.out.1, Only.trans (show Only (fun k => B ≤ k) w _ by repeat' first | exact (Only.refl _ _) | apply Only.alloc) g3.out.2 (fun _ _ g => g)⟩
  clear HW g3
  go_wp2
  go_end0
  exact ⟨rfl, G3.out⟩
end Go.Proofs.YtllpacppedobjaaGreatDoor
namespace Go.Proofs.YtllpacppedobjaaGreatDoor
open Go.RowKit Go.Lib
set_option linter.unusedSimpArgs false
set_option linter.unusedVariables false
set_option maxRecDepth 100000 in
theorem measured7 (w : World) : Calls Tryz.prog 29 #[i7] w fun e w' => e = .returned (.tuple #[.agg #[.int .i64 1, .int .i64 0], .int .i64 0]) ∧ Only (fun _ => False) w w' := by
  have HV : Hid (Calls Tryz.prog 44 #[.pointer (some ⟨w.heap.size + 1, 0, none⟩), i7, .int .i64 0] ((w.alloc (.cells #[.int .i64 0, .int .i64 0] 78)).alloc (.cells #[.int .i64 0, .int .i64 0] 78)) fun e w' => e = .returned (.bool true) ∧ Only (fun b => b = w.heap.size + 1) ((w.alloc (.cells #[.int .i64 0, .int .i64 0] 78)).alloc (.cells #[.int .i64 0, .int .i64 0] 78)) w' ∧ VmB w' (w.heap.size + 1) (0 + 1) 0) := vval_int 7 (by omega) (by omega) (w.heap.size + 1) 0 0 0 _ (va_at (w.alloc (.cells #[.int .i64 0, .int .i64 0] 78)) _ _ (Array.size_push ..).symm) (by omega) (by omega)
  have ca : ((w.alloc (.cells #[.int .i64 0, .int .i64 0] 78)).alloc (.cells #[.int .i64 0, .int .i64 0] 78)).heap[w.heap.size]? = some (.cells #[.int .i64 0, .int .i64 0] 78) := (((Only.refl (fun _ => False) (w.alloc (.cells #[.int .i64 0, .int .i64 0] 78))).alloc _).block w.heap.size (by rw [show (w.alloc (.cells #[.int .i64 0, .int .i64 0] 78)).heap.size = w.heap.size + 1 from Array.size_push ..]; omega) (fun h => h)).trans (va_at w _ _ rfl)
  have CA : Hid (((w.alloc (.cells #[.int .i64 0, .int .i64 0] 78)).alloc (.cells #[.int .i64 0, .int .i64 0] 78)).heap[w.heap.size]? = some (.cells #[.int .i64 0, .int .i64 0] 78)) := ca
  have CZ : Hid (((w.alloc (.cells #[.int .i64 0, .int .i64 0] 78)).alloc (.cells #[.int .i64 0, .int .i64 0] 78)).heap.size = w.heap.size + 2) := (Array.size_push ..).trans (congrArg (· + 1) (Array.size_push ..))
  clear ca
  go_enter Tryz.func29, Tryz.ntmps29
  go_wp2_with fail
  refine (show Calls Tryz.prog 44 _ _ _ from HV.out).mono ?_
  rintro e w1 ⟨rfl, o1, m1⟩
  have O1 : Hid (Only (fun _ => False) w w1) := (((Only.refl (fun _ => False) w).alloc _).alloc _).trans o1 (fun k hk e => by omega)
  have h0 := (o1.block w.heap.size (by rw [CZ.out]; omega) (by omega)).trans CA.out
  have c0 := wr_cell h0 0
  have c1 := wr_cell h0 1
  have f0 := wr_froz h0 0
  have f1 := wr_froz h0 1
  have d0 := wr_cell m1 0
  have d1 := wr_cell m1 1
  simp only [List.getElem?_toArray, List.getElem?_cons_succ, List.getElem?_cons_zero, Int.zero_add] at c0 c1 d0 d1
  have q := set2 c0 c1 (.int .i64 1) (.int .i64 0)
  have Q : Hid (((w1.setCell ⟨w.heap.size, 0, none⟩ (.int .i64 1)).setCell ⟨w.heap.size, 1, none⟩ (.int .i64 0)).cell? ⟨w.heap.size, 0, none⟩ = some (.int .i64 1) ∧ ((w1.setCell ⟨w.heap.size, 0, none⟩ (.int .i64 1)).setCell ⟨w.heap.size, 1, none⟩ (.int .i64 0)).cell? ⟨w.heap.size, 1, none⟩ = some (.int .i64 0)) := q
  clear h0 CA CZ HV o1 m1 q
  go_wp2
  refine bodyPost_ret (results_two rfl _ _ w.heap.size Q.out.1 Q.out.2 rfl) rfl ?_
  exact ⟨rfl, (O1.out.setCell _ _ (fun g => by simp only at g; omega)).setCell _ _ (fun g => by simp only at g; omega)⟩
set_option maxRecDepth 100000 in
theorem check7 (w : World) : Calls Tryz.prog 9 #[i7] w fun e w' => e = .returned (.int .i64 0) ∧ Only (fun _ => False) w w' := by
  have HV : Hid (Calls Tryz.prog 29 #[i7] w fun e w' => e = .returned (.tuple #[.agg #[.int .i64 1, .int .i64 0], .int .i64 0]) ∧ Only (fun _ => False) w w') := measured7 w
  go_enter Tryz.func9, Tryz.ntmps9
  go_wp2_with fail
  refine (show Calls Tryz.prog 29 _ _ _ from HV.out).mono ?_
  rintro e w1 ⟨rfl, o1⟩
  have O1 : Hid (Only (fun _ => False) w w1) := o1
  clear HV o1
  go_wp2
  go_ret
  exact ⟨rfl, O1.out.alloc _⟩
set_option maxRecDepth 100000 in
theorem word7 (w : World) : Calls Tryz.prog 49 #[p7] w fun e w' => e = .returned (.string ⟨#[55]⟩) ∧ Only (fun _ => False) w w' := by
  have HV : Hid (∀ w1 g, w1.cell? ⟨g, 0, none⟩ = some p7 → Calls Tryz.prog 70 #[.slice (some ⟨g, 0, none⟩) 1 1] w1 fun e w' => e = .returned (.tuple #[.string ⟨#[55]⟩, .int .i64 0]) ∧ Only (fun _ => False) w1 w') := fun w1 g => text7 g w1
  go_enter Tryz.func49, Tryz.ntmps49
  go_wp2_with fail
  have hc : (w.alloc (.cells #[p7] 86)).cell? ⟨w.heap.size, 0, none⟩ = some p7 := (wr_cell (va_at w (.cells #[p7] 86) _ rfl) 0).trans rfl
  refine (show Calls Tryz.prog 70 _ _ _ from HV.out _ _ hc).mono ?_
  rintro e w1 ⟨rfl, o1⟩
  have O1 : Hid (Only (fun _ => False) w w1) := ((Only.refl (fun _ => False) w).alloc _).trans o1 (fun _ _ g => g)
  clear HV o1 hc
  go_wp2
  go_ret
  exact ⟨rfl, O1.out⟩
set_option maxRecDepth 100000 in
theorem join1 (w : World) (g : Nat) (c : Int) (hc : 1 ≤ c) (s : ByteArray) (hg : w.cell? ⟨g, 0, none⟩ = some (.string s)) : Calls Tryz.prog 30 #[.slice (some ⟨g, 0, none⟩) 1 c.toNat, .string ⟨#[32]⟩] w fun e w' => e = .returned (.string s) ∧ w' = w := by
  go_enter Tryz.func30, Tryz.ntmps30
  go_wp2
  go_ret
  exact ⟨rfl, rfl⟩
end Go.Proofs.YtllpacppedobjaaGreatDoor
namespace Go.Proofs.YtllpacppedobjaaGreatDoor
open Go.RowKit Go.Lib
set_option linter.unusedSimpArgs false
set_option linter.unusedVariables false
/-- an item that pushes v -/
def pV (T : TypeId) (y : Value) : Value := .iface 99 (.agg #[.iface T y])
set_option maxRecDepth 100000 in
theorem pitemV {T : TypeId} {y : Value} (hv : PsV (.iface T y)) (M : Nat) (w : World) (hT : Tb w) (hg : Mg M) (h : MlB w M 1024) : Calls Tryz.prog 87 #[.pointer (some ⟨M, 0, none⟩), pV T y, .int .i64 32] w fun e w' => e = .returned (.bool true) ∧ Only (fun b => b = M) w w' := by
  have HV : Hid (∀ w1, Only (fun _ => False) w w1 → Calls Tryz.prog 91 #[.pointer (some ⟨M, 0, none⟩), .iface T y, .int .i64 32] w1 fun e w' => e = .returned (.bool true) ∧ Only (fun b => b = M) w1 w') := fun w1 o => hv M w1 (hT.frame o) (mlB_keep h o) hg
  have hP := va_hit 99 86 _ Tryz.underlying99 (by intro m h; cases h)
  have O0 : Hid (Only (fun _ => False) w w) := Only.refl _ _
  clear h hv hT hg
  unfold pV
  go_enter Tryz.func87, Tryz.ntmps87
  go_wp2_with fail
  refine (show Calls Tryz.prog 91 _ _ _ from HV.out _ (O0.out.alloc _)).mono ?_
  rintro e w1 ⟨rfl, o1⟩
  have O1 : Hid (Only (fun b => b = M) w w1) := ((Only.refl (fun b => b = M) w).alloc _).trans o1 (fun _ _ g => g)
  clear HV o1
  go_wp2
  go_ret
  exact ⟨rfl, O1.out⟩
set_option maxRecDepth 100000 in
theorem psoundV {T : TypeId} {y : Value} (hv : PsV (.iface T y)) (w : World) (hT : Tb w) : Calls Tryz.prog 84 #[pV T y] w fun e w' => e = .returned (.bool true) ∧ Only (fun _ => False) w w' := by
  have HI : Hid (Calls Tryz.prog 87 #[.pointer (some ⟨w.heap.size, 0, none⟩), pV T y, .int .i64 32] (w.alloc (.cells #[.int .i64 1024] 169)) fun e w' => e = .returned (.bool true) ∧ Only (fun b => b = w.heap.size) (w.alloc (.cells #[.int .i64 1024] 169)) w') := pitemV hv _ _ (hT.frame ((Only.refl _ w).alloc _)) (by have := hT.lt; exact ⟨by omega, by omega, by omega⟩) (va_at _ _ _ rfl)
  clear hv hT
  unfold pV at HI ⊢
  go_enter Tryz.func84, Tryz.ntmps84
  go_wp2_with fail
  refine (show Calls Tryz.prog 87 _ _ _ from HI.out).mono ?_
  rintro e w1 ⟨rfl, o1⟩
  have O1 : Hid (Only (fun _ => False) w w1) := ((Only.refl (fun _ => False) w).alloc _).trans o1 (fun k hk e => by omega)
  clear HI o1
  go_wp2
  go_ret
  exact ⟨rfl, O1.out⟩
set_option maxRecDepth 100000 in
theorem psoundsV {T : TypeId} {y : Value} (hv : PsV (.iface T y)) (w : World) (hT : Tb w) (g : Nat) (hg : w.cell? ⟨g, 0, none⟩ = some (pV T y)) : Calls Tryz.prog 79 #[.slice (some ⟨g, 0, none⟩) 1 1] w fun e w' => e = .returned (.bool true) ∧ Only (fun _ => False) w w' := by
  have HI : Hid (∀ w1, Only (fun _ => False) w w1 → Calls Tryz.prog 84 #[pV T y] w1 fun e w' => e = .returned (.bool true) ∧ Only (fun _ => False) w1 w') := fun w1 o => psoundV hv w1 (hT.frame o)
  clear hv hT
  unfold pV at HI hg
  go_enter Tryz.func79, Tryz.ntmps79
  go_wp2
  go_loopw [7] (fun r wr => ∃ i : Int, r = .int .i64 i ∧ (i = 0 ∨ i = 1) ∧ Hid (Only (fun _ => False) w wr)) (fun r _ => 1 - uOf r)
  case atStart => exact ⟨0, rfl, .inl rfl, Only.refl _ _⟩
  case round =>
    obtain ⟨i, rfl, hi, HO⟩ := hrel
    obtain ⟨w1, rfl⟩ : ∃ w1, w1 = wr := ⟨_, rfl⟩
    rcases hi with rfl | rfl
    · have hg1 := HO.out.cell hg (fun h => h)
      go_wp2_with fail
      refine (show Calls Tryz.prog 84 _ _ _ from HI.out _ HO.out).mono ?_
      rintro e w2 ⟨rfl, o2⟩
      have O2 : Hid (Only (fun _ => False) w w2) := HO.out.trans o2 (fun _ _ g => g)
      clear HI o2 hg1 HO
      go_wp2
      go_roundw
      case rel => exact ⟨1, rfl, .inr rfl, O2⟩
      case measure => simp [uOf]
    · go_wp2
      go_ret
      exact ⟨rfl, HO.out⟩
set_option maxRecDepth 100000 in
theorem witemV {T : TypeId} {y : Value} {t : ByteArray} (hv : WvV (.iface T y) t) (B b : Nat) (w : World) (hT : Tx w) (h : WrU B b [] false w) (hBw : B ≤ w.heap.size) : Calls Tryz.prog 85 #[.pointer (some ⟨b, 0, none⟩), pV T y] w fun e w' => e = .returned (.tuple #[]) ∧ Hid (WrU B b (strCells t) true w' ∧ Only (fun k => B ≤ k) w w') := by
  have HV : Hid (Calls Tryz.prog 88 #[.pointer (some ⟨b, 0, none⟩), .iface T y] (w.alloc (.cells #[.iface T y] 99)) fun e w' => e = .returned (.tuple #[]) ∧ Hid (WrU B b (strCells t) true w' ∧ Only (fun k => B ≤ k) (w.alloc (.cells #[.iface T y] 99)) w')) := hv B b _ (hT.frame ((Only.refl _ w).alloc _)) (h.alloc _) (by simp; omega)
  have hP := va_hit 99 86 _ Tryz.underlying99 (by intro m h; cases h)
  have O0 : Hid (Only (fun k => B ≤ k) w (w.alloc (.cells #[.iface T y] 99))) := (Only.refl (fun k => B ≤ k) w).alloc _
  clear h hBw hv hT
  unfold pV
  go_enter Tryz.func85, Tryz.ntmps85
  go_wp2_with fail
  refine (show Calls Tryz.prog 88 _ _ _ from HV.out).mono ?_
  rintro e w1 ⟨rfl, g1⟩
  clear HV
  go_wp2
  go_end0
  exact ⟨rfl, g1.out.1, O0.out.trans g1.out.2 (fun _ _ g => g)⟩
set_option maxRecDepth 100000 in
theorem witemsV {T : TypeId} {y : Value} {t : ByteArray} (hv : WvV (.iface T y) t) (B b g : Nat) (w : World) (hT : Tx w) (h : WrU B b [] false w) (hBw : B ≤ w.heap.size) (hg : w.cell? ⟨g, 0, none⟩ = some (pV T y)) : Calls Tryz.prog 80 #[.pointer (some ⟨b, 0, none⟩), .slice (some ⟨g, 0, none⟩) 1 1] w fun e w' => e = .returned (.tuple #[]) ∧ Hid (WrU B b (strCells t) true w' ∧ Only (fun k => B ≤ k) w w') := by
  have HI : Hid (Calls Tryz.prog 85 #[.pointer (some ⟨b, 0, none⟩), pV T y] w fun e w' => e = .returned (.tuple #[]) ∧ Hid (WrU B b (strCells t) true w' ∧ Only (fun k => B ≤ k) w w')) := witemV hv B b w hT h hBw
  clear h hBw hv hT
  unfold pV at HI hg
  go_enter Tryz.func80, Tryz.ntmps80
  go_wp2
  go_loopw [8] (fun r wr => (r = .int .i64 0 ∧ wr = w) ∨ (r = .int .i64 1 ∧ Hid (WrU B b (strCells t) true wr ∧ Only (fun k => B ≤ k) w wr))) (fun r _ => 1 - uOf r)
  case atStart => exact .inl ⟨rfl, rfl⟩
  case round =>
    rcases hrel with ⟨rfl, rfl⟩ | ⟨rfl, HO⟩
    · go_wp2_with fail
      refine (show Calls Tryz.prog 85 _ _ _ from HI.out).mono ?_
      rintro e w2 ⟨rfl, g2⟩
      clear HI hg
      go_wp2
      go_roundw
      case rel => exact .inr ⟨rfl, g2⟩
      case measure => simp [uOf]
    · obtain ⟨w1, rfl⟩ : ∃ w1, w1 = wr := ⟨_, rfl⟩
      go_wp2
      go_end0
      exact ⟨rfl, HO⟩
set_option maxRecDepth 100000 in
theorem textV {T : TypeId} {y : Value} {t : ByteArray} (hp : PsV (.iface T y)) (hv : WvV (.iface T y) t) (h0 : 0 < t.size) (h1 : t.size ≤ 65536) (g : Nat) (w : World) (hT : Tx w) (hg : w.cell? ⟨g, 0, none⟩ = some (pV T y)) : Calls Tryz.prog 70 #[.slice (some ⟨g, 0, none⟩) 1 1] w fun e w' => e = .returned (.tuple #[.string t, .int .i64 0]) ∧ Only (fun _ => False) w w' := by
  have HS : Hid (Calls Tryz.prog 79 #[.slice (some ⟨g, 0, none⟩) 1 1] w fun e w' => e = .returned (.bool true) ∧ Only (fun _ => False) w w') := psoundsV hp w hT.1 g hg
  have HG : Hid (w.cell? ⟨g, 0, none⟩ = some (pV T y)) := hg
  have HTx : Hid (Tx w) := hT
  have HZ : Hid (0 < t.size ∧ t.size ≤ 65536) := ⟨h0, h1⟩
  clear hg hp hT h0 h1
  go_enter Tryz.func70, Tryz.ntmps70
  go_wp2_with fail
  refine (show Calls Tryz.prog 79 _ _ _ from HS.out).mono ?_
  rintro e w1 ⟨rfl, o1⟩
  have O1 : Hid (Only (fun _ => False) w w1) := o1
  obtain ⟨b, hb⟩ : ∃ b, b = w1.heap.size := ⟨_, rfl⟩
  obtain ⟨W2, hW2⟩ : ∃ W2, W2 = w1.alloc (.cells #[.pointer none, .slice none 0 0, .bool false] 155) := ⟨_, rfl⟩
  have A2 : WrU b b [] false W2 := ⟨Nat.le_refl _, .pointer none, .slice none 0 0, by rw [hW2]; exact va_at _ _ _ hb, .inl rfl, ⟨rfl, .inl ⟨rfl, rfl⟩⟩, by simp [Value.ownBlock]⟩
  have o2 : Only (fun _ => False) w1 W2 := by rw [hW2]; exact (Only.refl _ w1).alloc _
  have HI : Hid (Calls Tryz.prog 80 #[.pointer (some ⟨b, 0, none⟩), .slice (some ⟨g, 0, none⟩) 1 1] W2 fun e w' => e = .returned (.tuple #[]) ∧ Hid (WrU b b (strCells t) true w' ∧ Only (fun k => b ≤ k) W2 w')) := witemsV hv b b g W2 (HTx.out.frame (O1.out.trans o2 (fun _ _ g => g))) A2 (by rw [hW2]; simp; omega) ((O1.out.trans o2 (fun _ _ g => g)).cell HG.out (fun h => h))
  have H2 : Hid (Only (fun _ => False) w W2 ∧ w.heap.size ≤ b) := ⟨O1.out.trans o2 (fun _ _ g => g), by rw [hb]; exact O1.out.size⟩
  clear HS o1 A2 o2 O1 HG
  go_wp2_with fail
  rw [← hb, ← hW2]
  refine (show Calls Tryz.prog 80 _ _ _ from HI.out).mono ?_
  rintro e w3 ⟨rfl, g3⟩
  have HW : Hid (Calls Tryz.prog 81 #[.pointer (some ⟨b, 0, none⟩)] w3 fun e w' => e = .returned (.tuple #[.string t, .int .i64 0]) ∧ Below b w3 w') := by
    have hne : t.data.toList ≠ [] := fun e => by
      have h4 : t.data.toList.length = 0 := by rw [e]; rfl
      rw [Array.length_toList] at h4
      have h2 : t.data.size = t.size := rfl
      have h3 := HZ.out.1
      omega
    have := wwhole_any b b t.data.toList true w3 (by rw [byteCells_str]; exact g3.out.1) hne (by rw [Array.length_toList]; exact HZ.out.2)
    rwa [show (⟨t.data.toList.toArray⟩ : ByteArray) = t from rfl] at this
  have O3 : Hid (Only (fun _ => False) w w3) := H2.out.1.trans g3.out.2 (fun k hk e => by have := H2.out.2; omega)
  clear HI g3 hW2 hb
  go_wp2_with fail
  refine (show Calls Tryz.prog 81 _ _ _ from HW.out).mono ?_
  rintro e w4 ⟨rfl, b4⟩
  have O4 : Hid (Only (fun _ => False) w w4) := O3.out.trans (⟨b4.os, b4.tape, b4.output, b4.size, fun k hk hn => b4.block k (by omega)⟩ : Only (fun k => b ≤ k) w3 w4) (fun k hk e => by have := H2.out.2; omega)
  clear HW b4 O3
  go_wp2
  go_ret2
  exact ⟨rfl, O4.out⟩
set_option maxRecDepth 100000 in
theorem wordV {T : TypeId} {y : Value} {t : ByteArray} (hp : PsV (.iface T y)) (hv : WvV (.iface T y) t) (h0 : 0 < t.size) (h1 : t.size ≤ 65536) (w : World) (hT : Tx w) : Calls Tryz.prog 49 #[pV T y] w fun e w' => e = .returned (.string t) ∧ Only (fun _ => False) w w' := by
  have HV : Hid (∀ w1 g, Only (fun _ => False) w w1 → w1.cell? ⟨g, 0, none⟩ = some (pV T y) → Calls Tryz.prog 70 #[.slice (some ⟨g, 0, none⟩) 1 1] w1 fun e w' => e = .returned (.tuple #[.string t, .int .i64 0]) ∧ Only (fun _ => False) w1 w') := fun w1 g o => textV hp hv h0 h1 g w1 (hT.frame o)
  clear hp hv h0 h1 hT
  unfold pV at HV ⊢
  go_enter Tryz.func49, Tryz.ntmps49
  go_wp2_with fail
  have hc : (w.alloc (.cells #[pV T y] 86)).cell? ⟨w.heap.size, 0, none⟩ = some (pV T y) := (wr_cell (va_at w (.cells #[pV T y] 86) _ rfl) 0).trans rfl
  refine (show Calls Tryz.prog 70 _ _ _ from HV.out _ _ ((Only.refl _ w).alloc _) hc).mono ?_
  rintro e w1 ⟨rfl, o1⟩
  have O1 : Hid (Only (fun _ => False) w w1) := ((Only.refl (fun _ => False) w).alloc _).trans o1 (fun _ _ g => g)
  clear HV o1 hc
  go_wp2
  go_ret
  exact ⟨rfl, O1.out⟩
set_option maxRecDepth 100000 in
theorem wordC (s : ByteArray) (hs : clB s = true) (w : World) (hN : Nog w) : Calls Tryz.prog 49 #[cV s] w fun e w' => e = .returned (.string s) ∧ Only (fun _ => False) w w' := by
  have HV : Hid (∀ w1 g, Only (fun _ => False) w w1 → w1.cell? ⟨g, 0, none⟩ = some (cV s) → Calls Tryz.prog 70 #[.slice (some ⟨g, 0, none⟩) 1 1] w1 fun e w' => e = .returned (.tuple #[.string s, .int .i64 0]) ∧ Only (fun _ => False) w1 w') := fun w1 g o hg => by
    have := textC s g w1 hg ⟨o.cell hN.1 (fun h => h), o.cell hN.2.1 (fun h => h), o.cell hN.2.2 (fun h => h)⟩
    rw [hs] at this
    exact this
  clear hs hN
  unfold cV at HV ⊢
  go_enter Tryz.func49, Tryz.ntmps49
  go_wp2_with fail
  have hc : (w.alloc (.cells #[cV s] 86)).cell? ⟨w.heap.size, 0, none⟩ = some (cV s) := (wr_cell (va_at w (.cells #[cV s] 86) _ rfl) 0).trans rfl
  refine (show Calls Tryz.prog 70 _ _ _ from HV.out _ _ ((Only.refl _ w).alloc _) hc).mono ?_
  rintro e w1 ⟨rfl, o1⟩
  have O1 : Hid (Only (fun _ => False) w w1) := ((Only.refl (fun _ => False) w).alloc _).trans o1 (fun _ _ g => g)
  clear HV o1 hc
  go_wp2
  go_ret
  exact ⟨rfl, O1.out⟩
end Go.Proofs.YtllpacppedobjaaGreatDoor
namespace Go.Proofs.YtllpacppedobjaaGreatDoor
open Go.RowKit Go.Lib
set_option linter.unusedSimpArgs false
set_option linter.unusedVariables false
/-- the word of a value without parts; the words of a value, of an item -/
def lfT (t : Vt) : ByteArray := if t.k = 1 then ⟨(Lib.itoa t.n).toArray⟩ else if t.k = 2 then (quoR t.s).1 else flT (t.n != 0)
def wdL : Nat → Bool → Vt → List ByteArray
  | 0, _, _ => []
  | d + 1, true, t => if t.k = 7 then [t.s] else wdL d false t
  | d + 1, false, t => if t.k = 4 then ⟨#[123]⟩ :: (t.l.flatMap (wdL d false) ++ [⟨#[125]⟩]) else if t.k = 5 then ⟨#[91]⟩ :: (t.l.flatMap (wdL d true) ++ [⟨#[93]⟩]) else if t.k = 6 then [⟨#[98, 111, 120]⟩] else [lfT t]
/-- a row of texts of one's own since block B -/
def WdAt (w : World) (B : Nat) (v : Value) (ws : List ByteArray) : Prop := w.ownsRow B 9 1 v ws.length (ws.map Value.string)
theorem wd_nil (w : World) (B : Nat) : WdAt w B (.slice none 0 0) [] := ⟨rfl, .inl ⟨rfl, rfl⟩⟩
theorem WdAt.form {w : World} {B : Nat} {v : Value} {ws : List ByteArray} (h : WdAt w B v ws) : ∃ ao cap, v = .slice ao ws.length cap := by
  rcases h.2 with ⟨h1, h2⟩ | ⟨g, cap, cur, h1, _⟩
  · exact ⟨_, _, by rw [h1, h2]⟩
  · exact ⟨_, _, h1⟩
theorem WdAt.only {w w' : World} {B : Nat} {v : Value} {ws : List ByteArray} {bs : Nat → Prop} (h : WdAt w B v ws) (o : Only bs w w') (hb : ∀ b, B ≤ b → b < w.heap.size → ¬ bs b) : WdAt w' B v ws := o.owns h (fun k hk => hb k (h.lt k hk).1 (h.lt k hk).2)
theorem wdinfo : (Tryz.prog.info? 9).map (fun i => (i.zero, i.size, i.bytes)) = some (some (.string ⟨#[]⟩), 1, 16) := by kernel_rfl
/-- a text is put behind a row -/
theorem app_w {w : World} {B : Nat} {v : Value} {ws : List ByteArray} {s : ByteArray} (hf : WdAt w B v ws) (hB : B ≤ w.heap.size) (hl : ws.length ≤ 1048576) :
    ∃ v' w', (∀ ty, (Builtin.append_ #[82, 82] ty #[v, .slice (some ⟨w.heap.size, 0, none⟩) 1 1]).run Tryz.prog (w.alloc (.cells #[.string s] 9)) = .ok v' w') ∧ WdAt w' B v' (ws ++ [s]) ∧ Only (fun k => v.ownBlock = some k) w w' := by
  obtain ⟨i0, hi, hz0, hz1, hz2⟩ := vinfo_parts wdinfo
  obtain ⟨W, hW⟩ : ∃ W, W = w.alloc (.cells #[.string s] 9) := ⟨_, rfl⟩
  have oo : Only (fun _ => False) w W := by rw [hW]; exact (Only.refl _ w).alloc _
  have hf2 : WdAt W B v ws := hf.only oo (fun _ _ _ h => h)
  have hblk : W.heap[w.heap.size]? = some (.cells #[.string s] 9) := by rw [hW]; exact valloc_at _ _ _ rfl
  have key := fun ty => run_append_own_at (P := Tryz.prog) W B 82 ty 9 i0 (.string ⟨#[]⟩) 1 16 Tryz.underlying82 hi hz0 hz1 hz2 rfl (by omega) v ws.length (ws.map Value.string) hf2 ⟨w.heap.size, 0, none⟩ 1 1 [.string s] rfl (by
      intro j u hj
      rw [addr_ad, vblk_cells hblk]
      simpa using hj) (by
      intro u hu
      simp only [List.mem_cons, List.not_mem_nil, or_false] at hu
      subst hu
      rfl) (by unfold maxLen; omega) (by omega) (by have := oo.size; omega)
  obtain ⟨v', w', hr, own', hg, _, hat⟩ := key 0
  refine ⟨v', w', fun ty => ?_, ?_, (oo.mono (bs' := fun k => v.ownBlock = some k) (fun _ _ h => h.elim)).trans ((Only.refl (fun k => v.ownBlock = some k) W).grown hg (fun k e _ => e)) (fun k hk e => e)⟩
  · rw [← hW, ← hr]
    rfl
  · unfold WdAt
    simpa using own'
/-- what addWords, addItemWords answer -/
def AwC (d F : Nat) (i : Bool) : Prop := ∀ (t : Vt) (v : Value) (w0 : World) (S : Nat → Prop), TiAt w0 S d i t v → okV d i t = true → (∃ e, SmT e t) → Tx w0 → ∀ (w : World) (ao : Option Addr) (n cap : Nat) (ws : List ByteArray), Only (fun _ => False) w0 w → WdAt w w0.heap.size (.slice ao n cap) ws → ws.length + (wdL d i t).length ≤ 1000000 →
  Calls Tryz.prog F #[.slice ao n cap, v] w fun e w' => ∃ ao' n' cap', e = .returned (.slice ao' n' cap') ∧ Hid (WdAt w' w0.heap.size (.slice ao' n' cap') (ws ++ wdL d i t) ∧ Only (fun _ => False) w0 w')
/-- how an append is met in the walk -/
theorem wd_app {w0 w : World} {ao : Option Addr} {n cap : Nat} {ws : List ByteArray} (s : ByteArray) (o : Only (fun _ => False) w0 w) (h : WdAt w w0.heap.size (.slice ao n cap) ws) (hl : ws.length ≤ 1000000) (b : Nat) (hb : b = w.heap.size) :
    ∃ ao' cap' w', (∀ ty, (Builtin.append_ #[82, 82] ty #[.slice ao n cap, .slice (some ⟨b, 0, none⟩) 1 1]).run Tryz.prog (w.alloc (.cells #[.string s] 9)) = .ok (.slice ao' (ws.length + 1) cap') w') ∧ WdAt w' w0.heap.size (.slice ao' (ws.length + 1) cap') (ws ++ [s]) ∧ Only (fun _ => False) w0 w' := by
  subst hb
  obtain ⟨v', w', hr, hw, o2⟩ := app_w (s := s) h o.size (by omega)
  obtain ⟨ao', cap', hf⟩ := hw.form
  rw [List.length_append, List.length_singleton] at hf
  subst hf
  exact ⟨ao', cap', w', hr, hw, o.trans o2 (fun b hb e => by have := (h.lt b e).1; omega)⟩
set_option maxRecDepth 100000 in
theorem aw_int (n1 : Int) (t : ByteArray) (w0 w : World) (ao : Option Addr) (n cap : Nat) (ws : List ByteArray) (HW0 : ∀ w1, Only (fun _ => False) w0 w1 → Calls Tryz.prog 49 #[pV 63 (.agg #[.int .i64 n1])] w1 fun e w' => e = .returned (.string t) ∧ Only (fun _ => False) w1 w') (o : Only (fun _ => False) w0 w) (h : WdAt w w0.heap.size (.slice ao n cap) ws) (hl : ws.length ≤ 1000000) :
    Calls Tryz.prog 31 #[.slice ao n cap, .iface 63 (.agg #[.int .i64 n1])] w fun e w' => ∃ ao' n' cap', e = .returned (.slice ao' n' cap') ∧ Hid (WdAt w' w0.heap.size (.slice ao' n' cap') (ws ++ [t]) ∧ Only (fun _ => False) w0 w') := by
  have HW : Hid (∀ w1, Only (fun _ => False) w0 w1 → Calls Tryz.prog 49 #[.iface 99 (.agg #[.iface 63 (.agg #[.int .i64 n1])])] w1 fun e w' => e = .returned (.string t) ∧ Only (fun _ => False) w1 w') := HW0
  have mList := va_miss 63 71 27 _ Tryz.underlying71 (by intro m h; cases h) (by decide) _ zL
  have mQuot := va_miss 63 73 27 _ Tryz.underlying73 (by intro m h; cases h) (by decide) _ zQ
  have mBox := va_miss 63 75 27 _ Tryz.underlying75 (by intro m h; cases h) (by decide) _ zB
  have HH : Hid (Only (fun _ => False) w0 w ∧ WdAt w w0.heap.size (.slice ao n cap) ws ∧ ws.length ≤ 1000000) := ⟨o, h, hl⟩
  clear HW0 o h hl
  go_enter Tryz.func31, Tryz.ntmps31
  go_wp2_with fail
  refine (show Calls Tryz.prog 49 _ _ _ from HW.out _ (by repeat' first | exact HH.out.1 | apply Only.alloc)).mono ?_
  rintro e w1 ⟨rfl, o1⟩
  have O1 : Only (fun _ => False) w w1 := Only.trans (by repeat' first | exact Only.refl _ _ | apply Only.alloc) o1 (fun _ _ g => g)
  obtain ⟨ao', cap', w2, hr, hw2, o2⟩ := wd_app t (HH.out.1.trans O1 (fun _ _ g => g)) (HH.out.2.1.only O1 (fun _ _ _ g => g)) HH.out.2.2 _ rfl
  have HR : Hid _ := hr
  have H2 : Hid (WdAt w2 w0.heap.size (.slice ao' (ws.length + 1) cap') (ws ++ [t]) ∧ Only (fun _ => False) w0 w2) := ⟨hw2, o2⟩
  obtain ⟨L, hL⟩ : ∃ L, L = ws.length + 1 := ⟨_, rfl⟩
  rw [← hL] at HR H2
  clear HW o1 O1 hr hw2 o2 hL mList mQuot mBox HH
  go_wp2_with (at_builtin; refine vwpList_append_run rfl _ _ 82 rfl _ _ _ rfl rfl HR.out ?_)
  go_ret
  exact ⟨ao', L, cap', rfl, H2⟩
set_option maxRecDepth 100000 in
theorem aw_str (s1 : ByteArray) (t : ByteArray) (w0 w : World) (ao : Option Addr) (n cap : Nat) (ws : List ByteArray) (HW0 : ∀ w1, Only (fun _ => False) w0 w1 → Calls Tryz.prog 49 #[pV 65 (.agg #[.string s1])] w1 fun e w' => e = .returned (.string t) ∧ Only (fun _ => False) w1 w') (o : Only (fun _ => False) w0 w) (h : WdAt w w0.heap.size (.slice ao n cap) ws) (hl : ws.length ≤ 1000000) :
    Calls Tryz.prog 31 #[.slice ao n cap, .iface 65 (.agg #[.string s1])] w fun e w' => ∃ ao' n' cap', e = .returned (.slice ao' n' cap') ∧ Hid (WdAt w' w0.heap.size (.slice ao' n' cap') (ws ++ [t]) ∧ Only (fun _ => False) w0 w') := by
  have HW : Hid (∀ w1, Only (fun _ => False) w0 w1 → Calls Tryz.prog 49 #[.iface 99 (.agg #[.iface 65 (.agg #[.string s1])])] w1 fun e w' => e = .returned (.string t) ∧ Only (fun _ => False) w1 w') := HW0
  have mList := va_miss 65 71 27 _ Tryz.underlying71 (by intro m h; cases h) (by decide) _ zL
  have mQuot := va_miss 65 73 27 _ Tryz.underlying73 (by intro m h; cases h) (by decide) _ zQ
  have mBox := va_miss 65 75 27 _ Tryz.underlying75 (by intro m h; cases h) (by decide) _ zB
  have HH : Hid (Only (fun _ => False) w0 w ∧ WdAt w w0.heap.size (.slice ao n cap) ws ∧ ws.length ≤ 1000000) := ⟨o, h, hl⟩
  clear HW0 o h hl
  go_enter Tryz.func31, Tryz.ntmps31
  go_wp2_with fail
  refine (show Calls Tryz.prog 49 _ _ _ from HW.out _ (by repeat' first | exact HH.out.1 | apply Only.alloc)).mono ?_
  rintro e w1 ⟨rfl, o1⟩
  have O1 : Only (fun _ => False) w w1 := Only.trans (by repeat' first | exact Only.refl _ _ | apply Only.alloc) o1 (fun _ _ g => g)
  obtain ⟨ao', cap', w2, hr, hw2, o2⟩ := wd_app t (HH.out.1.trans O1 (fun _ _ g => g)) (HH.out.2.1.only O1 (fun _ _ _ g => g)) HH.out.2.2 _ rfl
  have HR : Hid _ := hr
  have H2 : Hid (WdAt w2 w0.heap.size (.slice ao' (ws.length + 1) cap') (ws ++ [t]) ∧ Only (fun _ => False) w0 w2) := ⟨hw2, o2⟩
  obtain ⟨L, hL⟩ : ∃ L, L = ws.length + 1 := ⟨_, rfl⟩
  rw [← hL] at HR H2
  clear HW o1 O1 hr hw2 o2 hL mList mQuot mBox HH
  go_wp2_with (at_builtin; refine vwpList_append_run rfl _ _ 82 rfl _ _ _ rfl rfl HR.out ?_)
  go_ret
  exact ⟨ao', L, cap', rfl, H2⟩
set_option maxRecDepth 100000 in
theorem aw_bool (b1 : Bool) (t : ByteArray) (w0 w : World) (ao : Option Addr) (n cap : Nat) (ws : List ByteArray) (HW0 : ∀ w1, Only (fun _ => False) w0 w1 → Calls Tryz.prog 49 #[pV 67 (.agg #[.bool b1])] w1 fun e w' => e = .returned (.string t) ∧ Only (fun _ => False) w1 w') (o : Only (fun _ => False) w0 w) (h : WdAt w w0.heap.size (.slice ao n cap) ws) (hl : ws.length ≤ 1000000) :
    Calls Tryz.prog 31 #[.slice ao n cap, .iface 67 (.agg #[.bool b1])] w fun e w' => ∃ ao' n' cap', e = .returned (.slice ao' n' cap') ∧ Hid (WdAt w' w0.heap.size (.slice ao' n' cap') (ws ++ [t]) ∧ Only (fun _ => False) w0 w') := by
  have HW : Hid (∀ w1, Only (fun _ => False) w0 w1 → Calls Tryz.prog 49 #[.iface 99 (.agg #[.iface 67 (.agg #[.bool b1])])] w1 fun e w' => e = .returned (.string t) ∧ Only (fun _ => False) w1 w') := HW0
  have mList := va_miss 67 71 27 _ Tryz.underlying71 (by intro m h; cases h) (by decide) _ zL
  have mQuot := va_miss 67 73 27 _ Tryz.underlying73 (by intro m h; cases h) (by decide) _ zQ
  have mBox := va_miss 67 75 27 _ Tryz.underlying75 (by intro m h; cases h) (by decide) _ zB
  have HH : Hid (Only (fun _ => False) w0 w ∧ WdAt w w0.heap.size (.slice ao n cap) ws ∧ ws.length ≤ 1000000) := ⟨o, h, hl⟩
  clear HW0 o h hl
  go_enter Tryz.func31, Tryz.ntmps31
  go_wp2_with fail
  refine (show Calls Tryz.prog 49 _ _ _ from HW.out _ (by repeat' first | exact HH.out.1 | apply Only.alloc)).mono ?_
  rintro e w1 ⟨rfl, o1⟩
  have O1 : Only (fun _ => False) w w1 := Only.trans (by repeat' first | exact Only.refl _ _ | apply Only.alloc) o1 (fun _ _ g => g)
  obtain ⟨ao', cap', w2, hr, hw2, o2⟩ := wd_app t (HH.out.1.trans O1 (fun _ _ g => g)) (HH.out.2.1.only O1 (fun _ _ _ g => g)) HH.out.2.2 _ rfl
  have HR : Hid _ := hr
  have H2 : Hid (WdAt w2 w0.heap.size (.slice ao' (ws.length + 1) cap') (ws ++ [t]) ∧ Only (fun _ => False) w0 w2) := ⟨hw2, o2⟩
  obtain ⟨L, hL⟩ : ∃ L, L = ws.length + 1 := ⟨_, rfl⟩
  rw [← hL] at HR H2
  clear HW o1 O1 hr hw2 o2 hL mList mQuot mBox HH
  go_wp2_with (at_builtin; refine vwpList_append_run rfl _ _ 82 rfl _ _ _ rfl rfl HR.out ?_)
  go_ret
  exact ⟨ao', L, cap', rfl, H2⟩
set_option maxRecDepth 100000 in
theorem aw_box (n1 : Int) (w0 w : World) (ao : Option Addr) (n cap : Nat) (ws : List ByteArray) (o : Only (fun _ => False) w0 w) (h : WdAt w w0.heap.size (.slice ao n cap) ws) (hl : ws.length ≤ 1000000) :
    Calls Tryz.prog 31 #[.slice ao n cap, .iface 75 (.agg #[.int .i64 n1])] w fun e w' => ∃ ao' n' cap', e = .returned (.slice ao' n' cap') ∧ Hid (WdAt w' w0.heap.size (.slice ao' n' cap') (ws ++ [⟨#[98, 111, 120]⟩]) ∧ Only (fun _ => False) w0 w') := by
  have mList := va_miss 75 71 27 _ Tryz.underlying71 (by intro m h; cases h) (by decide) _ zL
  have mQuot := va_miss 75 73 27 _ Tryz.underlying73 (by intro m h; cases h) (by decide) _ zQ
  have hBox := va_hit 75 27 _ Tryz.underlying75 (by intro m h; cases h)
  obtain ⟨W, hW⟩ : ∃ W, W = ((w.alloc (.cells #[.slice none 0 0] 71)).alloc (.cells #[.slice none 0 0] 73)).alloc (.cells #[.int .i64 n1] 75) := ⟨_, rfl⟩
  have O1 : Only (fun _ => False) w W := by rw [hW]; repeat' first | exact Only.refl _ _ | apply Only.alloc
  obtain ⟨ao', cap', w2, hr, hw2, o2⟩ := wd_app ⟨#[98, 111, 120]⟩ (o.trans O1 (fun _ _ g => g)) (h.only O1 (fun _ _ _ g => g)) hl (w.heap.size + 1 + 1 + 1) (by rw [hW]; simp)
  rw [hW] at hr
  have HR : Hid _ := hr
  have H2 : Hid (WdAt w2 w0.heap.size (.slice ao' (ws.length + 1) cap') (ws ++ [⟨#[98, 111, 120]⟩]) ∧ Only (fun _ => False) w0 w2) := ⟨hw2, o2⟩
  obtain ⟨L, hL⟩ : ∃ L, L = ws.length + 1 := ⟨_, rfl⟩
  rw [← hL] at HR H2
  clear O1 hr hw2 o2 hL hW o h hl
  go_enter Tryz.func31, Tryz.ntmps31
  go_wp2_with (at_builtin; refine vwpList_append_run rfl _ _ 82 rfl _ _ _ rfl rfl HR.out ?_)
  go_ret
  exact ⟨ao', L, cap', rfl, H2⟩
set_option maxRecDepth 100000 in
set_option maxHeartbeats 4000000 in
theorem aw_list (d : Nat) (H : AwC d 31 false) (l : List Vt) (la : Option Addr) (lc : Nat) (w0 : World) (S : Nat → Prop) (hel : ∀ (j : Nat) (x : Vt), l[j]? = some x → ∃ g k u, la = some ⟨g, k, none⟩ ∧ S g ∧ w0.cell? ⟨g, k + j, none⟩ = some u ∧ TiAt w0 S d false x u) (hok : ∀ x ∈ l, okV d false x = true) (hsm : ∀ x ∈ l, ∃ e, SmT e x) (hlen : l.length ≤ 1048576) (hT : Tx w0) (w : World) (ao : Option Addr) (n cap : Nat) (ws : List ByteArray) (o : Only (fun _ => False) w0 w) (h : WdAt w w0.heap.size (.slice ao n cap) ws) (hb : ws.length + (l.flatMap (wdL d false)).length + 2 ≤ 1000000) :
    Calls Tryz.prog 31 #[.slice ao n cap, .iface 71 (.agg #[.slice la l.length lc])] w fun e w' => ∃ ao' n' cap', e = .returned (.slice ao' n' cap') ∧ Hid (WdAt w' w0.heap.size (.slice ao' n' cap') (ws ++ (⟨#[123]⟩ :: (l.flatMap (wdL d false) ++ [⟨#[125]⟩]))) ∧ Only (fun _ => False) w0 w') := by
  have HE : Hid (∀ (j : Nat) (x : Vt), l[j]? = some x → ∃ g k u, la = some ⟨g, k, none⟩ ∧ w0.cell? ⟨g, k + j, none⟩ = some u ∧ ∀ (w1 : World) (ao : Option Addr) (n cap : Nat) (ws : List ByteArray), Only (fun _ => False) w0 w1 → WdAt w1 w0.heap.size (.slice ao n cap) ws → ws.length + (wdL d false x).length ≤ 1000000 → Calls Tryz.prog 31 #[.slice ao n cap, u] w1 fun e w' => ∃ ao' n' cap', e = .returned (.slice ao' n' cap') ∧ Hid (WdAt w' w0.heap.size (.slice ao' n' cap') (ws ++ wdL d false x) ∧ Only (fun _ => False) w0 w')) := by
    intro j x hx
    obtain ⟨g, k, u, p1, p2, p3, p4⟩ := hel j x hx
    exact ⟨g, k, u, p1, p3, H x u w0 S p4 (hok x (List.mem_of_getElem? hx)) (hsm x (List.mem_of_getElem? hx)) hT⟩
  obtain ⟨N, hN⟩ : ∃ N, N = l.length := ⟨_, rfl⟩
  have HN : Hid (N = l.length ∧ N ≤ 1048576 ∧ ws.length + (l.flatMap (wdL d false)).length + 2 ≤ 1000000) := ⟨hN, by omega, hb⟩
  rw [← hN]
  have hList := va_hit 71 27 _ Tryz.underlying71 (by intro m h; cases h)
  obtain ⟨W, hW⟩ : ∃ W, W = w.alloc (.cells #[.slice la N lc] 71) := ⟨_, rfl⟩
  have O1 : Only (fun _ => False) w W := by rw [hW]; exact (Only.refl _ w).alloc _
  obtain ⟨ao1, cap1, w1, hr1, hw1, o1⟩ := wd_app ⟨#[123]⟩ (o.trans O1 (fun _ _ g => g)) (h.only O1 (fun _ _ _ g => g)) (by omega) (w.heap.size + 1) (by rw [hW]; simp)
  rw [hW] at hr1
  have HR1 : Hid _ := hr1
  have HB1 : Hid (W.heap[w.heap.size]? = some (.cells #[.slice la N lc] 71)) := by rw [hW]; exact valloc_at _ _ _ rfl
  have HS1 : Hid (WdAt w1 w0.heap.size (.slice ao1 (ws.length + 1) cap1) (ws ++ [⟨#[123]⟩]) ∧ Only (fun _ => False) w0 w1 ∧ w1.cell? ⟨w.heap.size, 0, none⟩ = some (.slice la N lc)) := by
    refine ⟨hw1, o1, ?_⟩
    obtain ⟨v9, w9, hr9, hw9, o9⟩ := app_w (s := ⟨#[123]⟩) (h.only O1 (fun _ _ _ g => g)) (Nat.le_trans o.size O1.size) (show ws.length ≤ 1048576 by omega)
    rw [show W.heap.size = w.heap.size + 1 from by rw [hW]; simp] at hr9
    rw [hW] at hr9
    have e9 := (hr9 0).symm.trans (hr1 0)
    injection e9 with e1 e2
    subst e2
    have hlt : ∀ b, (Value.slice ao n cap).ownBlock = some b → b < w.heap.size := fun b hb => (h.lt b hb).2
    have hx : ¬ (Value.slice ao n cap).ownBlock = some w.heap.size := fun e => by have := hlt _ e; omega
    exact (vblk_cells ((o9.block _ (Array.getElem?_eq_some_iff.1 HB1.out).1 hx).trans HB1.out) 0)
  obtain ⟨L1, hL1⟩ : ∃ L, L = ws.length + 1 := ⟨_, rfl⟩
  rw [← hL1] at HR1 HS1
  obtain ⟨BB, hBB⟩ : ∃ b, b = w.heap.size := ⟨_, rfl⟩
  rw [← hBB] at HS1
  clear hr1 hw1 o1 hel hok hsm hlen hT H hb hN o h O1 hW HB1 hL1
  go_enter Tryz.func31, Tryz.ntmps31
  have c0 := HS1.out.2.2
  rw [hBB] at c0
  go_wp2_with (at_builtin; refine vwpList_append_run rfl _ _ 82 rfl _ _ _ rfl rfl HR1.out ?_)
  clear c0
  go_loopw [0, 27] (fun r0 r27 wr => ∃ (j : Nat) (a' : Option Addr) (n' c' : Nat), r27 = .int .i64 (j : Int) ∧ j ≤ N ∧ r0 = .slice a' n' c' ∧ Hid (WdAt wr w0.heap.size (.slice a' n' c') (ws ++ [⟨#[123]⟩] ++ (l.take j).flatMap (wdL d false)) ∧ Only (fun _ => False) w0 wr)) (fun _ r27 _ => N - vuOf r27)
  case atStart => exact ⟨0, ao1, L1, cap1, rfl, Nat.zero_le _, rfl, by simpa using HS1.out.1, HS1.out.2.1⟩
  case round =>
    obtain ⟨j, a', n', c', rfl, hj, rfl, HI⟩ := hrel
    obtain ⟨w2, hw2⟩ : ∃ w2, w2 = wr := ⟨_, rfl⟩
    rw [← hw2] at HI ⊢
    clear hw2
    have hNl := HN.out.1
    have hN2 := HN.out.2.1
    have hN3 := HN.out.2.2
    by_cases hjN : j < N
    · obtain ⟨x, hx⟩ : ∃ x, l[j]? = some x := ⟨l[j]'(by omega), List.getElem?_eq_getElem (by omega)⟩
      obtain ⟨g, k, u, rfl, h0, hcall⟩ := HE.out j x hx
      have c0 := HI.out.2.cell h0 (fun g => g)
      have htk : (l.take (j + 1)).flatMap (wdL d false) = (l.take j).flatMap (wdL d false) ++ wdL d false x := by
        rw [List.take_add_one, hx]
        simp
      have hle : ((l.take (j + 1)).flatMap (wdL d false)).length ≤ (l.flatMap (wdL d false)).length := by
        conv => rhs; rw [← List.take_append_drop (j + 1) l]
        rw [List.flatMap_append, List.length_append]
        omega
      have HC : Hid _ := hcall w2 a' n' c' _ HI.out.2 HI.out.1 (by
        rw [htk, List.length_append] at hle
        simp only [List.length_append, List.length_singleton]
        omega)
      have HX : Hid (j < N ∧ (l.take (j + 1)).flatMap (wdL d false) = (l.take j).flatMap (wdL d false) ++ wdL d false x) := ⟨hjN, htk⟩
      have i1 : (j : Int) < (N : Int) := by omega
      have i0 : (0 : Int) ≤ (j : Int) := by omega
      have i4 : j ≤ 1048576 := by omega
      clear h0 hcall hNl hN2 hN3 hjN hj hx htk hle HI HE
      go_wp2_with fail
      refine (show Calls Tryz.prog 31 _ _ _ from HC.out).mono ?_
      rintro e w3 ⟨a3, n3, c3, rfl, G3⟩
      have HF : Hid (WdAt w3 w0.heap.size (.slice a3 n3 c3) (ws ++ [⟨#[123]⟩] ++ (l.take (j + 1)).flatMap (wdL d false)) ∧ Only (fun _ => False) w0 w3) := by
        rw [HX.out.2, ← List.append_assoc]
        exact G3.out
      clear HC G3 c0
      go_wp2
      go_roundw
      case rel => exact ⟨j + 1, a3, n3, c3, by go_num, by have := HX.out.1; omega, rfl, HF⟩
      case measure => simp only [vuOf]; have := HX.out.1; omega
    · obtain rfl : j = N := by omega
      have i1 : ¬ (j : Int) < (j : Int) := by omega
      have hI := HI.out
      rw [show l.take j = l from by rw [hNl]; exact List.take_length] at hI
      obtain ⟨a4, c4, w4, hr4, hw4, o4⟩ := wd_app ⟨#[125]⟩ hI.2 hI.1 (by simp only [List.length_append, List.length_singleton]; omega) _ rfl
      have HR4 : Hid _ := hr4
      obtain ⟨L4, hL4⟩ : ∃ L, L = (ws ++ [(⟨#[123]⟩ : ByteArray)] ++ l.flatMap (wdL d false)).length + 1 := ⟨_, rfl⟩
      rw [← hL4] at HR4 hw4
      have HF : Hid (WdAt w4 w0.heap.size (.slice a4 L4 c4) (ws ++ (⟨#[123]⟩ :: (l.flatMap (wdL d false) ++ [⟨#[125]⟩]))) ∧ Only (fun _ => False) w0 w4) := by
        refine ⟨?_, o4⟩
        have := hw4
        simpa using this
      clear HI hI hNl hN2 hN3 hjN hj hr4 hw4 o4 hL4 HE
      go_wp2_with (at_builtin; refine vwpList_append_run rfl _ _ 82 rfl _ _ _ rfl rfl HR4.out ?_)
      go_ret
      exact ⟨a4, L4, c4, rfl, HF⟩
set_option maxRecDepth 100000 in
set_option maxHeartbeats 4000000 in
theorem aw_quot (d : Nat) (H : AwC d 48 true) (l : List Vt) (la : Option Addr) (lc : Nat) (w0 : World) (S : Nat → Prop) (hel : ∀ (j : Nat) (x : Vt), l[j]? = some x → ∃ g k u, la = some ⟨g, k, none⟩ ∧ S g ∧ w0.cell? ⟨g, k + j, none⟩ = some u ∧ TiAt w0 S d true x u) (hok : ∀ x ∈ l, okV d true x = true) (hsm : ∀ x ∈ l, ∃ e, SmT e x) (hlen : l.length ≤ 1048576) (hT : Tx w0) (w : World) (ao : Option Addr) (n cap : Nat) (ws : List ByteArray) (o : Only (fun _ => False) w0 w) (h : WdAt w w0.heap.size (.slice ao n cap) ws) (hb : ws.length + (l.flatMap (wdL d true)).length + 2 ≤ 1000000) :
    Calls Tryz.prog 31 #[.slice ao n cap, .iface 73 (.agg #[.slice la l.length lc])] w fun e w' => ∃ ao' n' cap', e = .returned (.slice ao' n' cap') ∧ Hid (WdAt w' w0.heap.size (.slice ao' n' cap') (ws ++ (⟨#[91]⟩ :: (l.flatMap (wdL d true) ++ [⟨#[93]⟩]))) ∧ Only (fun _ => False) w0 w') := by
  have HE : Hid (∀ (j : Nat) (x : Vt), l[j]? = some x → ∃ g k u, la = some ⟨g, k, none⟩ ∧ w0.cell? ⟨g, k + j, none⟩ = some u ∧ ∀ (w1 : World) (ao : Option Addr) (n cap : Nat) (ws : List ByteArray), Only (fun _ => False) w0 w1 → WdAt w1 w0.heap.size (.slice ao n cap) ws → ws.length + (wdL d true x).length ≤ 1000000 → Calls Tryz.prog 48 #[.slice ao n cap, u] w1 fun e w' => ∃ ao' n' cap', e = .returned (.slice ao' n' cap') ∧ Hid (WdAt w' w0.heap.size (.slice ao' n' cap') (ws ++ wdL d true x) ∧ Only (fun _ => False) w0 w')) := by
    intro j x hx
    obtain ⟨g, k, u, p1, p2, p3, p4⟩ := hel j x hx
    exact ⟨g, k, u, p1, p3, H x u w0 S p4 (hok x (List.mem_of_getElem? hx)) (hsm x (List.mem_of_getElem? hx)) hT⟩
  obtain ⟨N, hN⟩ : ∃ N, N = l.length := ⟨_, rfl⟩
  have HN : Hid (N = l.length ∧ N ≤ 1048576 ∧ ws.length + (l.flatMap (wdL d true)).length + 2 ≤ 1000000) := ⟨hN, by omega, hb⟩
  rw [← hN]
  have mList := va_miss 73 71 27 _ Tryz.underlying71 (by intro m h; cases h) (by decide) _ zL
  have hQuot := va_hit 73 27 _ Tryz.underlying73 (by intro m h; cases h)
  obtain ⟨W, hW⟩ : ∃ W, W = (w.alloc (.cells #[.slice none 0 0] 71)).alloc (.cells #[.slice la N lc] 73) := ⟨_, rfl⟩
  have O1 : Only (fun _ => False) w W := by rw [hW]; exact ((Only.refl _ w).alloc _).alloc _
  obtain ⟨ao1, cap1, w1, hr1, hw1, o1⟩ := wd_app ⟨#[91]⟩ (o.trans O1 (fun _ _ g => g)) (h.only O1 (fun _ _ _ g => g)) (by omega) (w.heap.size + 1 + 1) (by rw [hW]; simp)
  rw [hW] at hr1
  have HR1 : Hid _ := hr1
  have HB1 : Hid (W.heap[w.heap.size + 1]? = some (.cells #[.slice la N lc] 73)) := by rw [hW]; exact valloc_at _ _ _ (by simp)
  have HS1 : Hid (WdAt w1 w0.heap.size (.slice ao1 (ws.length + 1) cap1) (ws ++ [⟨#[91]⟩]) ∧ Only (fun _ => False) w0 w1 ∧ w1.cell? ⟨w.heap.size + 1, 0, none⟩ = some (.slice la N lc)) := by
    refine ⟨hw1, o1, ?_⟩
    obtain ⟨v9, w9, hr9, hw9, o9⟩ := app_w (s := ⟨#[91]⟩) (h.only O1 (fun _ _ _ g => g)) (Nat.le_trans o.size O1.size) (show ws.length ≤ 1048576 by omega)
    rw [show W.heap.size = w.heap.size + 1 + 1 from by rw [hW]; simp] at hr9
    rw [hW] at hr9
    have e9 := (hr9 0).symm.trans (hr1 0)
    injection e9 with e1 e2
    subst e2
    have hlt : ∀ b, (Value.slice ao n cap).ownBlock = some b → b < w.heap.size := fun b hb => (h.lt b hb).2
    have hx : ¬ (Value.slice ao n cap).ownBlock = some (w.heap.size + 1) := fun e => by have := hlt _ e; omega
    exact (vblk_cells ((o9.block _ (Array.getElem?_eq_some_iff.1 HB1.out).1 hx).trans HB1.out) 0)
  obtain ⟨L1, hL1⟩ : ∃ L, L = ws.length + 1 := ⟨_, rfl⟩
  rw [← hL1] at HR1 HS1
  obtain ⟨BB, hBB⟩ : ∃ b, b = w.heap.size + 1 := ⟨_, rfl⟩
  rw [← hBB] at HS1
  clear hr1 hw1 o1 hel hok hsm hlen hT H hb hN o h O1 hW HB1 hL1
  go_enter Tryz.func31, Tryz.ntmps31
  have c0 := HS1.out.2.2
  rw [hBB] at c0
  go_wp2_with (at_builtin; refine vwpList_append_run rfl _ _ 82 rfl _ _ _ rfl rfl HR1.out ?_)
  clear c0
  go_loopw [0, 50] (fun r0 r27 wr => ∃ (j : Nat) (a' : Option Addr) (n' c' : Nat), r27 = .int .i64 (j : Int) ∧ j ≤ N ∧ r0 = .slice a' n' c' ∧ Hid (WdAt wr w0.heap.size (.slice a' n' c') (ws ++ [⟨#[91]⟩] ++ (l.take j).flatMap (wdL d true)) ∧ Only (fun _ => False) w0 wr)) (fun _ r27 _ => N - vuOf r27)
  case atStart => exact ⟨0, ao1, L1, cap1, rfl, Nat.zero_le _, rfl, by simpa using HS1.out.1, HS1.out.2.1⟩
  case round =>
    obtain ⟨j, a', n', c', rfl, hj, rfl, HI⟩ := hrel
    obtain ⟨w2, hw2⟩ : ∃ w2, w2 = wr := ⟨_, rfl⟩
    rw [← hw2] at HI ⊢
    clear hw2
    have hNl := HN.out.1
    have hN2 := HN.out.2.1
    have hN3 := HN.out.2.2
    by_cases hjN : j < N
    · obtain ⟨x, hx⟩ : ∃ x, l[j]? = some x := ⟨l[j]'(by omega), List.getElem?_eq_getElem (by omega)⟩
      obtain ⟨g, k, u, rfl, h0, hcall⟩ := HE.out j x hx
      have c0 := HI.out.2.cell h0 (fun g => g)
      have htk : (l.take (j + 1)).flatMap (wdL d true) = (l.take j).flatMap (wdL d true) ++ wdL d true x := by
        rw [List.take_add_one, hx]
        simp
      have hle : ((l.take (j + 1)).flatMap (wdL d true)).length ≤ (l.flatMap (wdL d true)).length := by
        conv => rhs; rw [← List.take_append_drop (j + 1) l]
        rw [List.flatMap_append, List.length_append]
        omega
      have HC : Hid _ := hcall w2 a' n' c' _ HI.out.2 HI.out.1 (by
        rw [htk, List.length_append] at hle
        simp only [List.length_append, List.length_singleton]
        omega)
      have HX : Hid (j < N ∧ (l.take (j + 1)).flatMap (wdL d true) = (l.take j).flatMap (wdL d true) ++ wdL d true x) := ⟨hjN, htk⟩
      have i1 : (j : Int) < (N : Int) := by omega
      have i0 : (0 : Int) ≤ (j : Int) := by omega
      have i4 : j ≤ 1048576 := by omega
      clear h0 hcall hNl hN2 hN3 hjN hj hx htk hle HI HE
      go_wp2_with fail
      refine (show Calls Tryz.prog 48 _ _ _ from HC.out).mono ?_
      rintro e w3 ⟨a3, n3, c3, rfl, G3⟩
      have HF : Hid (WdAt w3 w0.heap.size (.slice a3 n3 c3) (ws ++ [⟨#[91]⟩] ++ (l.take (j + 1)).flatMap (wdL d true)) ∧ Only (fun _ => False) w0 w3) := by
        rw [HX.out.2, ← List.append_assoc]
        exact G3.out
      clear HC G3 c0
      go_wp2
      go_roundw
      case rel => exact ⟨j + 1, a3, n3, c3, by go_num, by have := HX.out.1; omega, rfl, HF⟩
      case measure => simp only [vuOf]; have := HX.out.1; omega
    · obtain rfl : j = N := by omega
      have i1 : ¬ (j : Int) < (j : Int) := by omega
      have hI := HI.out
      rw [show l.take j = l from by rw [hNl]; exact List.take_length] at hI
      obtain ⟨a4, c4, w4, hr4, hw4, o4⟩ := wd_app ⟨#[93]⟩ hI.2 hI.1 (by simp only [List.length_append, List.length_singleton]; omega) _ rfl
      have HR4 : Hid _ := hr4
      obtain ⟨L4, hL4⟩ : ∃ L, L = (ws ++ [(⟨#[91]⟩ : ByteArray)] ++ l.flatMap (wdL d true)).length + 1 := ⟨_, rfl⟩
      rw [← hL4] at HR4 hw4
      have HF : Hid (WdAt w4 w0.heap.size (.slice a4 L4 c4) (ws ++ (⟨#[91]⟩ :: (l.flatMap (wdL d true) ++ [⟨#[93]⟩]))) ∧ Only (fun _ => False) w0 w4) := by
        refine ⟨?_, o4⟩
        have := hw4
        simpa using this
      clear HI hI hNl hN2 hN3 hjN hj hr4 hw4 o4 hL4 HE
      go_wp2_with (at_builtin; refine vwpList_append_run rfl _ _ 82 rfl _ _ _ rfl rfl HR4.out ?_)
      go_ret
      exact ⟨a4, L4, c4, rfl, HF⟩
end Go.Proofs.YtllpacppedobjaaGreatDoor
