/- A call of a name: is there such a name? parse.Text of it, and value's callable. The measure of values: the parts that ValuePointers reaches. The numbers by which the library's contract on utf8.ValidString stands over this program. How large a value is, and whether it is sound: the plain functions, and the leaves. soundAlone: of each kind that holds no others. A measure goes through lists: every; value, item. Copies of rows: anew and copyEach. Values that are written over: what stays of them, whatever is shared. Values of any kind as the document's trees: how these lie in memory. -/
import Derived.Test.YtmpfbjmaiddigaaGreatDoorGad
import Derived.Test.YtmpfbjmaiddigaaGreatDoorGaf
import Derived.Test.YtmpfbjmaiddigaaGreatDoorGaa
import Derived.Shelf.Unicode.ValidAny
import Derived.Test.YtmpfbjmaiddigaaGreatDoorProg
import Derived.Deep.AppendSrc
import Derived.Lib.SliceRun
import Derived.Laws.MakeOwn
import Derived.Laws.CopyRow
import Derived.Test.YtmpfbjmaiddigaaGreatDoorGac
namespace Go.Proofs.YtmpfbjmaiddigaaGreatDoor
open Go.RowKit Go.Lib
set_option linter.unusedSimpArgs false
set_option linter.unusedVariables false
/-- may it be called? -/
def clB (s : ByteArray) : Bool := nameB s && !(resB s)
set_option maxRecDepth 100000 in
theorem pcallable_any (s : ByteArray) (w : World) (h : Nog w) : Calls Tryz.prog 53 #[.string s] w fun e w' => e = .returned (.bool (clB s)) ∧ Only (fun _ => False) w w' := by
  have HN : Hid _ := name_any s w h
  have HR := reserved_any s
  unfold clB
  obtain ⟨b, hb⟩ : ∃ b, b = nameB s := ⟨_, rfl⟩
  obtain ⟨r, hr⟩ : ∃ r, r = resB s := ⟨_, rfl⟩
  rw [← hb] at HN ⊢
  rw [← hr] at HR ⊢
  clear hb hr h
  go_enter Tryz.func53, Tryz.ntmps53
  go_wp2_with fail
  refine (show Calls Tryz.prog 74 _ _ _ from HN.out).mono ?_
  rintro e w1 ⟨rfl, o1⟩
  have O1 : Hid (Only (fun _ => False) w w1) := o1
  clear HN o1
  cases b with
  | false =>
    go_wp2
    go_ret
    exact ⟨rfl, O1.out⟩
  | true =>
    go_wp2_with (go_at_call 66; refine (HR _).mono ?_; rintro e w' ⟨rfl, hq⟩; rw [hq]; clear hq)
    go_ret
    exact ⟨by simp, O1.out⟩
theorem nog_keep {w w' : World} {M : Nat} (h : Nog w) (o : Only (fun b => b = M) w w') (hg : 3 ≠ M) : Nog w' := ⟨o.cell h.1 hg, o.cell h.2.1 hg, o.cell h.2.2 hg⟩
theorem nog_lt {w : World} (h : Nog w) : 3 < w.heap.size := World.block_lt_of_cell? w _ h.1
theorem wid4 (s : ByteArray) (pos : Nat) : (Utf8.decode s pos).2 ≤ 4 := by
  unfold Utf8.decode
  simp
  repeat' split
  all_goals simp
theorem crs_long {s : ByteArray} : ∀ (b pos : Nat), s.size ≤ pos + b → s.size - pos ≤ 4 * (crs s b pos).length
  | 0, pos, h => by omega
  | b + 1, pos, h => by
    by_cases hp : pos < s.size
    · have h1 := crs_long (s := s) b (pos + (Utf8.decode s pos).2) (by have := wid_pos s pos hp; omega)
      have h2 := wid4 s pos
      have e : crs s (b + 1) pos = (pos, (Utf8.decode s pos).1) :: crs s b (pos + (Utf8.decode s pos).2) := by simp [crs, hp]
      rw [e, List.length_cons]
      omega
    · omega
theorem nmL_short : ∀ (l : List Nat) (k : Nat), k ≤ 32 → nmL l k = true → k + l.length ≤ 32 ∧ 0 < k + l.length
  | [], k, hk, h => by simp only [nmL, decide_eq_true_eq] at h; simp; omega
  | c :: l, k, hk, h => by
    simp only [nmL] at h
    split at h
    · cases h
    · rename_i hn
      have := nmL_short l (k + 1) (by omega) h
      simp only [List.length_cons]
      omega
theorem name_size {s : ByteArray} (h : nameB s = true) : s.size ≤ 128 ∧ 0 < s.size := by
  unfold nameB nmdB at h
  simp only [Bool.and_eq_true] at h
  have h2 := h.2
  split at h2
  · cases h2
  · split at h2
    · cases h2
    · have h3 := nmL_short _ 0 (by omega) h2
      have h4 : (rns s).length = (crs s s.size 0).length := by simp [rns, chs]
      have h5 := crs_long (s := s) s.size 0 (by omega)
      refine ⟨by omega, ?_⟩
      rcases Nat.eq_zero_or_pos s.size with h0 | h0
      · have h6 : (crs s s.size 0).length = 0 := by rw [crs_end (by omega)]; rfl
        omega
      · exact h0
def cV (s : ByteArray) : Value := .iface 48 (.agg #[.string s])
theorem vzero_Push (W : World) : (zeroValue 81).run Tryz.prog W = .ok (.agg #[.nilIface]) W := by kernel_rfl
set_option maxRecDepth 100000 in
theorem pitemC (s : ByteArray) (M : Nat) (w : World) (h : MlB w M 1024) (hN : Nog w) (hg : 3 ≠ M) : Calls Tryz.prog 49 #[.pointer (some ⟨M, 0, none⟩), cV s, .int .i64 32] w fun e w' => e = .returned (.bool (clB s)) ∧ Only (fun b => b = M) w w' := by
  have mP := va_miss 48 81 36 _ Tryz.underlying81 (by intro m h; cases h) (by decide) _ vzero_Push
  have hC := va_hit 48 36 _ Tryz.underlying48 (by intro m h; cases h)
  have HM : Hid (∀ w1, Only (fun _ => False) w w1 → Calls Tryz.prog 70 #[.pointer (some ⟨M, 0, none⟩)] w1 fun e w' => e = .returned (.bool true) ∧ Only (fun b => b = M) w1 w' ∧ MlB w' M (1024 - 1)) := fun w1 o => pmore_any M 1024 w1 ((o.block M (Array.getElem?_eq_some_iff.1 h).1 (fun g => g)).trans h) (by omega) (by omega)
  have HC : Hid (∀ w1, Only (fun b => b = M) w w1 → Calls Tryz.prog 53 #[.string s] w1 fun e w' => e = .returned (.bool (clB s)) ∧ Only (fun _ => False) w1 w') := fun w1 o => pcallable_any s w1 (nog_keep hN o hg)
  have O0 : Hid (Only (fun _ => False) w w) := Only.refl _ _
  have HL : Hid (M < w.heap.size) := (Array.getElem?_eq_some_iff.1 h).1
  obtain ⟨b, hb⟩ : ∃ b, b = clB s := ⟨_, rfl⟩
  rw [← hb] at HC ⊢
  clear h hN hb hg
  unfold cV
  go_enter Tryz.func49, Tryz.ntmps49
  go_wp2_with fail
  refine (show Calls Tryz.prog 70 _ _ _ from HM.out _ (by repeat' first | exact O0.out | apply Only.alloc)).mono ?_
  rintro e w1 ⟨rfl, o1, _⟩
  have O1 : Hid (Only (fun b => b = M) w w1) := Only.trans (show Only (fun b => b = M) w _ by repeat' first | exact (Only.refl _ _) | apply Only.alloc) o1 (fun _ _ g => g)
  have x0 : w1.cell? ⟨w.heap.size, 0, none⟩ = some (.string s) := o1.cell (a := ⟨w.heap.size, 0, none⟩) (by simp [go_sem]) (by have := HL.out; simp only; omega)
  clear HM o1
  have HC1 : Hid _ := HC.out w1 O1.out
  clear HC
  go_wp2_with fail
  refine (show Calls Tryz.prog 53 _ _ _ from HC1.out).mono ?_
  rintro e w2 ⟨rfl, o2⟩
  have O2 : Hid (Only (fun b => b = M) w w2) := O1.out.trans (o2.mono (bs' := fun b => b = M) (fun _ _ g => g.elim)) (fun _ _ g => g)
  clear HC1 o2 O1
  go_wp2
  go_ret
  exact ⟨rfl, O2.out⟩
set_option maxRecDepth 100000 in
theorem psoundC (s : ByteArray) (w : World) (hN : Nog w) : Calls Tryz.prog 32 #[cV s] w fun e w' => e = .returned (.bool (clB s)) ∧ Only (fun _ => False) w w' := by
  have HI : Hid (Calls Tryz.prog 49 #[.pointer (some ⟨w.heap.size, 0, none⟩), cV s, .int .i64 32] (w.alloc (.cells #[.int .i64 1024] 126)) fun e w' => e = .returned (.bool (clB s)) ∧ Only (fun b => b = w.heap.size) (w.alloc (.cells #[.int .i64 1024] 126)) w') := pitemC s w.heap.size _ (va_at _ _ _ rfl) (hN.frame ((Only.refl _ w).alloc _)) (Nat.ne_of_lt (nog_lt hN))
  clear hN
  go_enter Tryz.func32, Tryz.ntmps32
  go_wp2_with fail
  refine (show Calls Tryz.prog 49 _ _ _ from HI.out).mono ?_
  rintro e w1 ⟨rfl, o1⟩
  have O1 : Hid (Only (fun _ => False) w w1) := ((Only.refl (fun _ => False) w).alloc _).trans o1 (fun k hk e => by omega)
  clear HI o1
  go_wp2
  go_ret
  exact ⟨rfl, O1.out⟩
set_option maxRecDepth 100000 in
theorem psoundsC (s : ByteArray) (w : World) (g : Nat) (hg : w.cell? ⟨g, 0, none⟩ = some (cV s)) (hN : Nog w) : Calls Tryz.prog 17 #[.slice (some ⟨g, 0, none⟩) 1 1] w fun e w' => e = .returned (.bool (clB s)) ∧ Only (fun _ => False) w w' := by
  have HI : Hid (Calls Tryz.prog 32 #[cV s] w fun e w' => e = .returned (.bool (clB s)) ∧ Only (fun _ => False) w w') := psoundC s w hN
  unfold cV at hg HI
  obtain ⟨b, hb⟩ : ∃ b, b = clB s := ⟨_, rfl⟩
  rw [← hb] at HI ⊢
  clear hN hb
  go_enter Tryz.func17, Tryz.ntmps17
  go_wp2
  go_loopw [7] (fun r wr => ∃ i : Int, r = .int .i64 i ∧ ((i = 0 ∧ wr = w) ∨ (i = 1 ∧ b = true ∧ Hid (Only (fun _ => False) w wr)))) (fun r _ => 1 - uOf r)
  case atStart => exact ⟨0, rfl, .inl ⟨rfl, rfl⟩⟩
  case round =>
    obtain ⟨i, rfl, ⟨rfl, hw⟩ | ⟨rfl, hb, HO⟩⟩ := hrel
    · rw [hw]
      clear hw
      go_wp2_with fail
      refine (show Calls Tryz.prog 32 _ _ _ from HI.out).mono ?_
      rintro e w2 ⟨rfl, o2⟩
      have O2 : Hid (Only (fun _ => False) w w2) := o2
      clear HI o2 hg
      cases b with
      | false =>
        go_wp2
        go_ret
        exact ⟨rfl, O2.out⟩
      | true =>
        go_wp2
        go_roundw
        case rel => exact ⟨1, rfl, .inr ⟨rfl, trivial, O2⟩⟩
        case measure => simp [uOf]
    · subst hb
      clear HI hg
      go_wp2
      go_ret
      exact ⟨rfl, HO.out⟩
set_option maxRecDepth 100000 in
theorem witemC (s : ByteArray) (hs : s.size ≤ 1000000) (B b : Nat) (w : World) (h : WrU B b [] false w) (hBw : B ≤ w.heap.size) : Calls Tryz.prog 33 #[.pointer (some ⟨b, 0, none⟩), cV s] w fun e w' => e = .returned (.tuple #[]) ∧ Hid (WrU B b (strCells s) true w' ∧ Only (fun k => B ≤ k) w w') := by
  have mP := va_miss 48 81 36 _ Tryz.underlying81 (by intro m h; cases h) (by decide) _ vzero_Push
  have hC := va_hit 48 36 _ Tryz.underlying48 (by intro m h; cases h)
  have HW : Hid (∀ w1, Only (fun _ => False) w w1 → Calls Tryz.prog 51 #[.pointer (some ⟨b, 0, none⟩), .string s] w1 fun e w' => e = .returned (.tuple #[]) ∧ Hid (WrU B b ([] ++ strCells s) true w' ∧ Only (fun k => B ≤ k) w1 w')) := fun w1 o => wword_first B b [] s w1 (h.only o) (by simp) hs (Nat.le_trans hBw o.size)
  have O0 : Hid (Only (fun _ => False) w w) := Only.refl _ _
  clear h hBw
  unfold cV
  go_enter Tryz.func33, Tryz.ntmps33
  go_wp2_with fail
  refine (show Calls Tryz.prog 51 _ _ _ from HW.out _ (by repeat' first | exact O0.out | apply Only.alloc)).mono ?_
  rintro e w1 ⟨rfl, g1⟩
  have G1 : Hid (WrU B b (strCells s) true w1 ∧ Only (fun k => B ≤ k) w w1) := ⟨g1.out.1, Only.trans (show Only (fun k => B ≤ k) w _ by repeat' first | exact (Only.refl _ _) | apply Only.alloc) g1.out.2 (fun _ _ g => g)⟩
  clear HW g1
  go_wp2
  go_end0
  exact ⟨rfl, G1.out⟩
set_option maxRecDepth 100000 in
theorem witemsC (s : ByteArray) (hs : s.size ≤ 1000000) (B b g : Nat) (w : World) (h : WrU B b [] false w) (hBw : B ≤ w.heap.size) (hg : w.cell? ⟨g, 0, none⟩ = some (cV s)) : Calls Tryz.prog 18 #[.pointer (some ⟨b, 0, none⟩), .slice (some ⟨g, 0, none⟩) 1 1] w fun e w' => e = .returned (.tuple #[]) ∧ Hid (WrU B b (strCells s) true w' ∧ Only (fun k => B ≤ k) w w') := by
  have HI : Hid (Calls Tryz.prog 33 #[.pointer (some ⟨b, 0, none⟩), cV s] w fun e w' => e = .returned (.tuple #[]) ∧ Hid (WrU B b (strCells s) true w' ∧ Only (fun k => B ≤ k) w w')) := witemC s hs B b w h hBw
  unfold cV at HI hg
  clear h hBw
  go_enter Tryz.func18, Tryz.ntmps18
  go_wp2
  go_loopw [8] (fun r wr => (r = .int .i64 0 ∧ wr = w) ∨ (r = .int .i64 1 ∧ Hid (WrU B b (strCells s) true wr ∧ Only (fun k => B ≤ k) w wr))) (fun r _ => 1 - uOf r)
  case atStart => exact .inl ⟨rfl, rfl⟩
  case round =>
    rcases hrel with ⟨rfl, rfl⟩ | ⟨rfl, HO⟩
    · go_wp2_with fail
      refine (show Calls Tryz.prog 33 _ _ _ from HI.out).mono ?_
      rintro e w2 ⟨rfl, g2⟩
      clear HI hg
      go_wp2
      go_roundw
      case rel => exact .inr ⟨rfl, g2⟩
      case measure => simp [uOf]
    · obtain ⟨w1, rfl⟩ : ∃ w1, w1 = wr := ⟨_, rfl⟩
      go_wp2
      go_end0
      exact ⟨rfl, HO⟩
theorem byteCells_str (s : ByteArray) : Lib.byteCells s.data.toList = strCells s := by
  first | rfl | simp [Lib.byteCells, strCells]
set_option maxRecDepth 100000 in
theorem textC (s : ByteArray) (g : Nat) (w : World) (hg : w.cell? ⟨g, 0, none⟩ = some (cV s)) (hN : Nog w) : Calls Tryz.prog 7 #[.slice (some ⟨g, 0, none⟩) 1 1] w fun e w' => e = .returned (.tuple #[.string (if clB s then s else ⟨#[]⟩), .int .i64 (if clB s then 0 else 1)]) ∧ Only (fun _ => False) w w' := by
  have HS : Hid (Calls Tryz.prog 17 #[.slice (some ⟨g, 0, none⟩) 1 1] w fun e w' => e = .returned (.bool (clB s)) ∧ Only (fun _ => False) w w') := psoundsC s w g hg hN
  have HG : Hid (w.cell? ⟨g, 0, none⟩ = some (cV s)) := hg
  obtain ⟨bb, hbb⟩ : ∃ bb, bb = clB s := ⟨_, rfl⟩
  have HB : Hid (bb = clB s) := hbb
  rw [← hbb] at HS ⊢
  clear hg hN hbb
  go_enter Tryz.func7, Tryz.ntmps7
  go_wp2_with fail
  refine (show Calls Tryz.prog 17 _ _ _ from HS.out).mono ?_
  rintro e w1 ⟨rfl, o1⟩
  have O1 : Hid (Only (fun _ => False) w w1) := o1
  cases bb with
  | false =>
    clear HS o1
    go_wp2
    go_ret2
    exact ⟨rfl, O1.out⟩
  | true =>
    have hsz : s.size ≤ 128 ∧ 0 < s.size := by
      have := HB.out
      unfold clB at this
      exact name_size (Bool.and_eq_true .. ▸ this.symm : nameB s = true ∧ _).1
    obtain ⟨b, hb⟩ : ∃ b, b = w1.heap.size := ⟨_, rfl⟩
    obtain ⟨W2, hW2⟩ : ∃ W2, W2 = w1.alloc (.cells #[.pointer none, .slice none 0 0, .bool false] 62) := ⟨_, rfl⟩
    have A2 : WrU b b [] false W2 := ⟨Nat.le_refl _, .pointer none, .slice none 0 0, by rw [hW2]; exact va_at _ _ _ hb, .inl rfl, ⟨rfl, .inl ⟨rfl, rfl⟩⟩, by simp [Value.ownBlock]⟩
    have o2 : Only (fun _ => False) w1 W2 := by rw [hW2]; exact (Only.refl _ w1).alloc _
    have HI : Hid (Calls Tryz.prog 18 #[.pointer (some ⟨b, 0, none⟩), .slice (some ⟨g, 0, none⟩) 1 1] W2 fun e w' => e = .returned (.tuple #[]) ∧ Hid (WrU b b (strCells s) true w' ∧ Only (fun k => b ≤ k) W2 w')) := witemsC s (by omega) b b g W2 A2 (by rw [hW2]; simp; omega) ((O1.out.trans o2 (fun _ _ g => g)).cell HG.out (fun h => h))
    have H2 : Hid (Only (fun _ => False) w W2 ∧ w.heap.size ≤ b) := ⟨O1.out.trans o2 (fun _ _ g => g), by rw [hb]; exact O1.out.size⟩
    have HZ : Hid (s.size ≤ 128 ∧ 0 < s.size) := hsz
    clear HS o1 A2 o2 O1 HG hsz
    go_wp2_with fail
    rw [← hb, ← hW2]
    refine (show Calls Tryz.prog 18 _ _ _ from HI.out).mono ?_
    rintro e w3 ⟨rfl, g3⟩
    have HW : Hid (Calls Tryz.prog 19 #[.pointer (some ⟨b, 0, none⟩)] w3 fun e w' => e = .returned (.tuple #[.string ⟨s.data.toList.toArray⟩, .int .i64 0]) ∧ Below b w3 w') := by
      have hl : s.data.toList.length = s.size := Array.length_toList
      refine wwhole_any b b s.data.toList true w3 (by rw [byteCells_str]; exact g3.out.1) (fun e => ?_) (by have := HZ.out; omega)
      rw [e] at hl
      have := HZ.out
      simp at hl
      omega
    have O3 : Hid (Only (fun _ => False) w w3) := H2.out.1.trans g3.out.2 (fun k hk e => by have := H2.out.2; omega)
    clear HI g3 hW2 hb
    go_wp2_with fail
    refine (show Calls Tryz.prog 19 _ _ _ from HW.out).mono ?_
    rintro e w4 ⟨rfl, b4⟩
    have O4 : Hid (Only (fun _ => False) w w4) := O3.out.trans (⟨b4.os, b4.tape, b4.output, b4.size, fun k hk hn => b4.block k (by omega)⟩ : Only (fun k => b ≤ k) w3 w4) (fun k hk e => by have := H2.out.2; omega)
    clear HW b4 O3
    go_wp2
    go_ret2
    exact ⟨by simp, O4.out⟩
end Go.Proofs.YtmpfbjmaiddigaaGreatDoor
namespace Go.Proofs.YtmpfbjmaiddigaaGreatDoor
open Go.RowKit Go.Lib
set_option linter.unusedSimpArgs false
set_option linter.unusedVariables false
/-- v is none of the six values -/
structure BadV (v : Value) : Prop where
  k : v = .nilIface ∨ ∃ T x, v = .iface T x
  l : ∀ W : World, (Instr.typeAssert v 79 85 true).run Tryz.prog W = .ok (.tuple #[.agg #[.slice none 0 0], .bool false]) W
  q : ∀ W : World, (Instr.typeAssert v 79 90 true).run Tryz.prog W = .ok (.tuple #[.agg #[.slice none 0 0], .bool false]) W
  i : ∀ W : World, (Instr.typeAssert v 79 88 true).run Tryz.prog W = .ok (.tuple #[.agg #[.int .i64 0], .bool false]) W
  s : ∀ W : World, (Instr.typeAssert v 79 118 true).run Tryz.prog W = .ok (.tuple #[.agg #[.string ByteArray.empty], .bool false]) W
  x : ∀ W : World, (Instr.typeAssert v 79 123 true).run Tryz.prog W = .ok (.tuple #[.agg #[.int .i64 0], .bool false]) W
  b : ∀ W : World, (Instr.typeAssert v 79 120 true).run Tryz.prog W = .ok (.tuple #[.agg #[.bool false], .bool false]) W
set_option maxRecDepth 100000 in
theorem bad_nil : BadV .nilIface := by
  refine ⟨.inl rfl, ?_, ?_, ?_, ?_, ?_, ?_⟩ <;> intro W <;> rfl
set_option maxRecDepth 100000 in
theorem bad_ptr (T : TypeId) (x : Value) (h1 : T ≠ 85) (h2 : T ≠ 90) (h3 : T ≠ 88) (h4 : T ≠ 118) (h5 : T ≠ 123) (h6 : T ≠ 120) : BadV (.iface T x) := by
  refine ⟨.inr ⟨T, x, rfl⟩, ?_, ?_, ?_, ?_, ?_, ?_⟩
  · exact va_miss T 85 79 _ Tryz.underlying85 (by intro m h; cases h) h1 _ (fun _ => rfl) x
  · exact va_miss T 90 79 _ Tryz.underlying90 (by intro m h; cases h) h2 _ (fun _ => rfl) x
  · exact va_miss T 88 79 _ Tryz.underlying88 (by intro m h; cases h) h3 _ (fun _ => rfl) x
  · exact va_miss T 118 79 _ Tryz.underlying118 (by intro m h; cases h) h4 _ (fun _ => rfl) x
  · exact va_miss T 123 79 _ Tryz.underlying123 (by intro m h; cases h) h5 _ (fun _ => rfl) x
  · exact va_miss T 120 79 _ Tryz.underlying120 (by intro m h; cases h) h6 _ (fun _ => rfl) x
end Go.Proofs.YtmpfbjmaiddigaaGreatDoor
namespace Go.Proofs
open Go.Shelf
def Tryz.laysValid_ren : Go.Shelf.Ren := ⟨fun | 196 => 84 | 259 => 96 | n => n, fun | 9 => 9 | 4 => 4 | 3 => 3 | 5 => 5 | 12 => 12 | 119 => 165 | 0 => 0 | 46 => 169 | 139 => 168 | 138 => 167 | 53 => 172 | n => n, fun | 3 => 0 | 4 => 1 | n => n⟩
theorem Tryz.laysValid : Go.Proofs.Lays.n196 Tryz.prog Tryz.laysValid_ren := {
  mixed := by kernel_rfl
  f196 := Tryz.func84.trans (congrArg some (by kernel_rfl))
  f259 := Tryz.func96.trans (congrArg some (by kernel_rfl))
  t0 := Tryz.underlying0
  a0 := Tryz.isAgg0
  z0 := Tryz.sizeOf0
  v0 := Tryz.zeroValue0
  t3 := Tryz.underlying3
  a3 := Tryz.isAgg3
  z3 := Tryz.sizeOf3
  v3 := Tryz.zeroValue3
  t4 := Tryz.underlying4
  a4 := Tryz.isAgg4
  z4 := Tryz.sizeOf4
  v4 := Tryz.zeroValue4
  t5 := Tryz.underlying5
  a5 := Tryz.isAgg5
  z5 := Tryz.sizeOf5
  v5 := Tryz.zeroValue5
  t9 := Tryz.underlying9
  a9 := Tryz.isAgg9
  z9 := Tryz.sizeOf9
  v9 := Tryz.zeroValue9
  t12 := Tryz.underlying12
  a12 := Tryz.isAgg12
  z12 := Tryz.sizeOf12
  v12 := Tryz.zeroValue12
  t46 := Tryz.underlying169
  a46 := Tryz.isAgg169
  z46 := Tryz.sizeOf169
  v46 := Tryz.zeroValue169
  t53 := Tryz.underlying172
  a53 := Tryz.isAgg172
  z53 := Tryz.sizeOf172
  v53 := Tryz.zeroValue172
  t119 := Tryz.underlying165
  a119 := Tryz.isAgg165
  z119 := Tryz.sizeOf165
  t138 := Tryz.underlying167
  a138 := Tryz.isAgg167
  z138 := Tryz.sizeOf167
  v138 := Tryz.zeroValue167
  t139 := Tryz.underlying168
  a139 := Tryz.isAgg168
  z139 := Tryz.sizeOf168
  v139 := Tryz.zeroValue168
  g3 := by kernel_rfl
  g4 := by kernel_rfl }
end Go.Proofs
namespace Go.Proofs.YtmpfbjmaiddigaaGreatDoor
open Go.RowKit Go.Lib
set_option linter.unusedSimpArgs false
set_option linter.unusedVariables false
/-- the tables that are read, as they begin -/
def Tb (w : World) : Prop := Nog w ∧ Lib.Utf8Tabs 0 1 w
/-- is a text one of characters? -/
def vlB (s : ByteArray) : Bool := Lib.validD s.data.toList
/-- is a value sound that holds no others? -/
def alB (t : Vt) : Bool :=
  if t.k = 1 then decide (-1152921504606846976 ≤ t.n) && decide (t.n ≤ 1152921504606846975) else if t.k = 2 then decide (t.s.size ≤ 4096) && vlB t.s
  else if t.k = 6 then decide (1 ≤ t.n) && decide (t.n ≤ 1048576) else decide (t.k = 3)
/-- how many values and items there are -/
def sz : Nat → Bool → Vt → Nat
  | 0, _, _ => 1
  | d + 1, true, t => if t.k = 7 ∨ t.k = 8 then 1 else sz d false t
  | d + 1, false, t => 1 + (t.l.map (sz d (decide (t.k = 5)))).sum
/-- how many lists and quotations stand within one another -/
def dp : Nat → Bool → Vt → Nat
  | 0, _, _ => 0
  | d + 1, true, t => if t.k = 7 ∨ t.k = 8 then 0 else dp d false t
  | d + 1, false, t => if t.k = 4 ∨ t.k = 5 then 1 + ((t.l.map (dp d (decide (t.k = 5)))).foldl max 0) else 0
/-- is each part what it may be? -/
def okV : Nat → Bool → Vt → Bool
  | 0, _, _ => false
  | d + 1, true, t => if t.k = 7 then clB t.s else if t.k = 8 then false else okV d false t
  | d + 1, false, t => if t.k = 4 ∨ t.k = 5 then t.l.all (okV d (decide (t.k = 5))) else alB t
def msB (d : Nat) (i : Bool) (t : Vt) (k o : Nat) : Bool := okV d i t && decide (k + sz d i t ≤ 1024) && decide (o + dp d i t ≤ 32)
/-- the same of parts, one behind the other -/
def evB (d : Nat) (i : Bool) : List Vt → Nat → Nat → Bool
  | [], _, _ => true
  | x :: r, k, o => msB d i x k o && evB d i r (k + sz d i x) o
theorem sz_pos : ∀ (d : Nat) (i : Bool) (t : Vt), 1 ≤ sz d i t
  | 0, _, _ => Nat.le_refl _
  | d + 1, true, t => by
    unfold sz
    split
    · exact Nat.le_refl _
    · exact sz_pos d false t
  | d + 1, false, t => by unfold sz; omega
theorem foldl_max (l : List Nat) : ∀ (a : Nat), l.foldl max a = max a (l.foldl max 0) := by
  induction l with
  | nil => intro a; simp
  | cons x l ih => intro a; simp only [List.foldl_cons]; rw [ih (max a x), ih (max 0 x)]; omega
theorem evB_eq (d : Nat) (i : Bool) : ∀ (l : List Vt) (k o : Nat), k ≤ 1024 → o ≤ 32 → evB d i l k o = (l.all (okV d i) && decide (k + (l.map (sz d i)).sum ≤ 1024) && decide (o + (l.map (dp d i)).foldl max 0 ≤ 32))
  | [], k, o, hk, ho => by simp [evB, hk, ho]
  | x :: r, k, o, hk, ho => by
    have hp := sz_pos d i x
    simp only [evB, msB, List.all_cons, List.map_cons, List.sum_cons, List.foldl_cons]
    rw [foldl_max _ (max 0 (dp d i x))]
    by_cases h1 : k + sz d i x ≤ 1024
    · rw [evB_eq d i r (k + sz d i x) o h1 ho]
      rw [Bool.eq_iff_iff]
      simp only [Bool.and_eq_true, decide_eq_true_eq]
      constructor
      · rintro ⟨⟨⟨a1, a2⟩, a3⟩, ⟨a4, a5⟩, a6⟩
        exact ⟨⟨⟨a1, a4⟩, by omega⟩, by omega⟩
      · rintro ⟨⟨⟨a1, a4⟩, a2⟩, a3⟩
        exact ⟨⟨⟨a1, h1⟩, by omega⟩, ⟨a4, by omega⟩, by omega⟩
    · have e1 : decide (k + sz d i x ≤ 1024) = false := decide_eq_false h1
      have e2 : decide (k + (sz d i x + (r.map (sz d i)).sum) ≤ 1024) = false := decide_eq_false (by omega)
      rw [e1, e2]
      simp
theorem valid_any (s : ByteArray) (hs : s.size ≤ 9223372036854775807) (w : World) (h : Tb w) : Calls Tryz.prog 84 #[.string s] w fun e w' => e = .returned (.bool (vlB s)) ∧ Only (fun _ => False) w w' := by
  have := Any.utf8_ValidString Tryz.laysValid s w hs h.2
  refine (show Calls Tryz.prog 84 _ _ _ from this).mono ?_
  rintro e w' ⟨he, hb⟩
  exact ⟨he, ⟨hb.os, hb.tape, hb.output, hb.size, fun k hk _ => hb.block k hk⟩⟩
end Go.Proofs.YtmpfbjmaiddigaaGreatDoor
namespace Go.Proofs.YtmpfbjmaiddigaaGreatDoor
open Go.RowKit Go.Lib
set_option linter.unusedSimpArgs false
set_option linter.unusedVariables false
theorem Tb.keep {w w' : World} {M : Nat} (h : Tb w) (o : Only (fun b => b = M) w w') (hg : 3 ≠ M) (h0 : 0 ≠ M) (h1 : 1 ≠ M) : Tb w' :=
  ⟨nog_keep h.1 o hg, fun c hc => o.cell (h.2.1 c hc) h0, fun i hi => ⟨o.cell (h.2.2 i hi).1 h1, o.cell (h.2.2 i hi).2 h1⟩⟩
theorem Tb.frame {w w' : World} (h : Tb w) (o : Only (fun _ => False) w w') : Tb w' :=
  ⟨h.1.frame o, fun c hc => o.cell (h.2.1 c hc) (fun g => g), fun i hi => ⟨o.cell (h.2.2 i hi).1 (fun g => g), o.cell (h.2.2 i hi).2 (fun g => g)⟩⟩
theorem Tb.lt {w : World} (h : Tb w) : 3 < w.heap.size ∧ 0 < w.heap.size ∧ 1 < w.heap.size :=
  ⟨nog_lt h.1, World.block_lt_of_cell? w _ (h.2.1 0 (by omega)), World.block_lt_of_cell? w _ (h.2.2 0 (by omega)).1⟩
theorem zI (W : World) : (zeroValue 88).run Tryz.prog W = .ok (.agg #[.int .i64 0]) W := by kernel_rfl
theorem zS (W : World) : (zeroValue 118).run Tryz.prog W = .ok (.agg #[.string ⟨#[]⟩]) W := by kernel_rfl
theorem zB (W : World) : (zeroValue 123).run Tryz.prog W = .ok (.agg #[.int .i64 0]) W := by kernel_rfl
theorem zL (W : World) : (zeroValue 85).run Tryz.prog W = .ok (.agg #[.slice none 0 0]) W := by kernel_rfl
theorem zQ (W : World) : (zeroValue 90).run Tryz.prog W = .ok (.agg #[.slice none 0 0]) W := by kernel_rfl
theorem zO (W : World) : (zeroValue 120).run Tryz.prog W = .ok (.agg #[.bool false]) W := by kernel_rfl
theorem zC (W : World) : (zeroValue 48).run Tryz.prog W = .ok (.agg #[.string ⟨#[]⟩]) W := by kernel_rfl
end Go.Proofs.YtmpfbjmaiddigaaGreatDoor
namespace Go.Proofs.YtmpfbjmaiddigaaGreatDoor
open Go.RowKit Go.Lib
set_option linter.unusedSimpArgs false
set_option linter.unusedVariables false
/-- a measure's block is none of the tables' -/
def Mg (M : Nat) : Prop := 3 ≠ M ∧ 0 ≠ M ∧ 1 ≠ M
end Go.Proofs.YtmpfbjmaiddigaaGreatDoor
namespace Go.Proofs.YtmpfbjmaiddigaaGreatDoor
open Go.RowKit Go.Lib
set_option linter.unusedSimpArgs false
set_option linter.unusedVariables false
theorem mk_row {sT eT : TypeId} (hT : Tryz.prog.underlying sT = some (.slice eT)) (hI : (Tryz.prog.info? eT).map (fun i => (i.zero, i.size, i.bytes)) = some (some .nilIface, 1, 16)) (n : Nat) (hn : n ≤ 2513169434900) : ∃ M : Array Value, M.size = n ∧ ∀ w : World, (Instr.makeSlice sT (.int .i64 0) (.int .i64 n)).run Tryz.prog w = .ok (.slice (some ⟨w.heap.size, 0, none⟩) 0 n) (w.alloc (.cells M eT)) := by
  obtain ⟨i0, hi0, hz0, hz1, hz2⟩ := vinfo_parts hI
  refine ⟨madeCells (Value.nilIface).cells n, size_madeCells _ _, fun w => ?_⟩
  have := run_make (P := Tryz.prog) w sT eT i0 _ hT hi0 hz0 .i64 .i64 0 (n : Int) (by omega) (by omega) (by rw [hz2]; omega) (by omega)
  rw [hz1, show ((n : Int)).toNat = n by omega, Nat.mul_one] at this
  exact this
theorem ap_row {sT eT : TypeId} (hT : Tryz.prog.underlying sT = some (.slice eT)) (hI : (Tryz.prog.info? eT).map (fun i => (i.zero, i.size, i.bytes)) = some (some .nilIface, 1, 16)) {W : World} {g n cap : Nat} {a : Addr} {us : List Value} {cur : Array Value} (hl : us.length = n) (hu : ∀ j u, us[j]? = some u → W.cell? (a.add j) = some u) (h1 : ∀ u ∈ us, u.oneCell' = true) (hg : W.heap[g]? = some (.cells cur eT)) (hc : cur.size = n) (ty : TypeId) :
    (Builtin.append_ #[sT, sT] ty #[.slice (some ⟨g, 0, none⟩) 0 n, .slice (some a) n cap]).run Tryz.prog W = .ok (.slice (some ⟨g, 0, none⟩) n n) (W.setRow g us.toArray) := by
  obtain ⟨i0, hi, hz0, hz1, hz2⟩ := vinfo_parts hI
  have hs : Src Tryz.prog i0.size sT (.slice (some a) n cap) n us W := Src.ofSlice W hT a n cap us (by rw [hz1, Nat.mul_one]; exact hl) hu h1
  have hst := run_storeCells_at Tryz.prog g 0 eT us 0 cur W hg (by omega) h1
  simp only [Nat.add_zero, Nat.zero_add, List.take_zero, List.nil_append] at hst
  rw [show cur.toList.drop us.length = [] from List.drop_eq_nil_of_le (by simp; omega), List.append_nil] at hst
  have hroom : 0 + n ≤ n := by omega
  rcases hs.kind with ⟨e', hk⟩ | hk <;> simp [Builtin.append_, run_underlying hT, run_underlying hk, sizeOf, typeInfo, hi, hs.len, hroom, hs.cells, Addr.add_lit, hst]
theorem setRow_only {w : World} {g : Nat} {cs : Array Value} : Only (fun b => b = g) w (w.setRow g cs) := by
  refine ⟨rfl, rfl, rfl, by simp [World.setRow], fun j _ hne => ?_⟩
  show (w.heap.modify g _)[j]? = w.heap[j]?
  rw [Array.getElem?_modify, if_neg (fun h => hne h.symm)]
theorem TiAt.one {w : World} {S : Nat → Prop} {d : Nat} {i : Bool} {t : Vt} {v : Value} (h : TiAt w S d i t v) : v.oneCell' = true := by
  cases d with
  | zero => exact h.elim
  | succ d =>
    cases i with
    | true => rcases h with ⟨_, _, rfl⟩ | ⟨_, _, rfl⟩ | ⟨_, _, u, rfl, _⟩ <;> rfl
    | false => rcases h with ⟨_, _, rfl⟩ | ⟨_, _, rfl⟩ | ⟨_, _, rfl⟩ | ⟨_, _, rfl⟩ | ⟨_, _, rfl⟩ | ⟨_, ao, cap, rfl, _⟩ <;> rfl
theorem TiAt.shape2 {w : World} {S : Nat → Prop} {d : Nat} {i : Bool} {t : Vt} {v : Value} (h : TiAt w S d i t v) : v = .nilIface ∨ ∃ T y, v = .iface T y := by
  cases d with
  | zero => exact h.elim
  | succ d =>
    cases i with
    | true => rcases h with ⟨_, _, rfl⟩ | ⟨_, _, rfl⟩ | ⟨_, _, u, rfl, _⟩ <;> first | exact .inl rfl | exact .inr ⟨_, _, rfl⟩
    | false => rcases h with ⟨_, _, rfl⟩ | ⟨_, _, rfl⟩ | ⟨_, _, rfl⟩ | ⟨_, _, rfl⟩ | ⟨_, _, rfl⟩ | ⟨_, ao, cap, rfl, _⟩ <;> first | exact .inl rfl | exact .inr ⟨_, _, rfl⟩
/-- a slice as anew makes it: the values us in a block of its own since w, or nothing -/
def AnP (eT : TypeId) (us : List Value) (w : World) (e : Ending) (w' : World) : Prop := (us = [] ∧ e = .returned (.slice none 0 0) ∧ w' = w) ∨ ∃ g, e = .returned (.slice (some ⟨g, 0, none⟩) us.length us.length) ∧ w.heap.size ≤ g ∧ w'.heap[g]? = some (.cells us.toArray eT) ∧ Only (fun _ => False) w w'
/-- what copies a part: its contract -/
def CpC (d : Nat) (i : Bool) (F : Nat) : Prop := ∀ (t : Vt) (v : Value) (w : World) (S : Nat → Prop), TiAt w S d i t v → (∃ e, SmT e t) → (∀ b, S b → b < w.heap.size) → Calls Tryz.prog F #[v] w fun e w' => ∃ v', e = .returned v' ∧ Hid (NiAt w' w.heap.size d i t v' ∧ Only (fun _ => False) w w')
/-- the parts l of a row at ao -/
def PsAt (w : World) (S : Nat → Prop) (d : Nat) (i : Bool) (l : List Vt) (ao : Option Addr) : Prop := ∀ (j : Nat) (x : Vt), l[j]? = some x → ∃ g q u, ao = some ⟨g, q, none⟩ ∧ S g ∧ w.cell? ⟨g, q + j, none⟩ = some u ∧ TiAt w S d i x u
/-- what copyEach answers -/
def CeC (d : Nat) (i : Bool) (F G : Nat) : Prop := ∀ (l : List Vt) (ao : Option Addr) (cap : Nat) (w : World) (S : Nat → Prop), PsAt w S d i l ao → (∀ b, S b → b < w.heap.size) → (∀ x ∈ l, ∃ e, SmT e x) → l.length ≤ 2513169434900 → (ao = none → l = []) →
  Calls Tryz.prog G #[.slice ao l.length cap, .func (.func F) #[] #[]] w fun e w' => ∃ ao' cap', e = .returned (.slice ao' l.length cap') ∧ Hid (l.length ≤ cap' ∧ (∃ S', PsAt w' S' d i l ao' ∧ ∀ b, S' b → w.heap.size ≤ b ∧ Liv w' b) ∧ Only (fun _ => False) w w')
theorem ps_row0 {w : World} {S : Nat → Prop} {d : Nat} {i : Bool} {l : List Vt} {ao : Option Addr} (h : PsAt w S d i l ao) : ∀ m, m ≤ l.length → ∃ us : List Value, us.length = m ∧ ∀ (j : Nat) (u : Value), us[j]? = some u → ∃ x, l[j]? = some x ∧ (∀ a, ao = some a → w.cell? (a.add j) = some u) ∧ TiAt w S d i x u := by
  intro m
  induction m with
  | zero => intro _; exact ⟨[], rfl, fun j u hu => by simp at hu⟩
  | succ m ih =>
    intro hm
    obtain ⟨us, h1, h2⟩ := ih (by omega)
    obtain ⟨g, q, u, ha, hg, hc, ht⟩ := h m (l[m]'(by omega)) (List.getElem?_eq_getElem (by omega))
    refine ⟨us ++ [u], by simp [h1], fun j v hv => ?_⟩
    by_cases hj : j < us.length
    · rw [List.getElem?_append_left hj] at hv
      exact h2 j v hv
    · have hj2 := (List.getElem?_eq_some_iff.1 hv).1
      have hj3 : j = us.length := by simp at hj2; omega
      subst hj3
      simp at hv
      subst hv
      refine ⟨_, by rw [h1]; exact List.getElem?_eq_getElem (by omega), fun a e => ?_, ht⟩
      rw [ha] at e
      injection e with e
      rw [← e, Addr.add_mid, h1]
      exact hc
theorem ps_row {w : World} {S : Nat → Prop} {d : Nat} {i : Bool} {l : List Vt} {ao : Option Addr} (h : PsAt w S d i l ao) : ∃ us : List Value, us.length = l.length ∧ (∀ u ∈ us, u.oneCell' = true) ∧ (∀ a, ao = some a → ∀ j u, us[j]? = some u → w.cell? (a.add j) = some u) ∧ ∀ (j : Nat) (x : Vt), l[j]? = some x → ∃ u, us[j]? = some u ∧ TiAt w S d i x u := by
  obtain ⟨us, h1, h2⟩ := ps_row0 h l.length (Nat.le_refl _)
  refine ⟨us, h1, fun u hu => ?_, fun a e j u hu => ?_, fun j x hx => ?_⟩
  · obtain ⟨j, hj, e⟩ := List.mem_iff_getElem.1 hu
    obtain ⟨x, _, _, ht⟩ := h2 j u (by rw [← e]; exact List.getElem?_eq_getElem hj)
    exact ht.one
  · obtain ⟨x, _, hc, _⟩ := h2 j u hu
    exact hc a e
  · have hj := (List.getElem?_eq_some_iff.1 hx).1
    obtain ⟨y, hy, _, ht⟩ := h2 j (us[j]'(by omega)) (List.getElem?_eq_getElem (by omega))
    rw [hx] at hy
    injection hy with hy
    rw [hy]
    exact ⟨_, List.getElem?_eq_getElem (by omega), ht⟩
/-- a copy under way: j parts are copied, the others are still those that were handed in -/
def CeI (w wr : World) (S : Nat → Prop) (d : Nat) (i : Bool) (eT : TypeId) (l : List Vt) (G j : Nat) : Prop :=
  ∃ (vs : List Value) (S' : Nat → Prop), vs.length = l.length ∧ wr.heap[G]? = some (.cells vs.toArray eT) ∧ Only (fun _ => False) w wr ∧ w.heap.size ≤ G ∧
    (∀ b, S' b → w.heap.size ≤ b ∧ Liv wr b ∧ b ≠ G) ∧ (∀ u ∈ vs, u.oneCell' = true) ∧ ∀ (k : Nat) (x : Vt), l[k]? = some x → ∃ u, vs[k]? = some u ∧ (k < j → TiAt wr S' d i x u) ∧ (j ≤ k → TiAt wr S d i x u)
theorem CeI.step {w wr w2 : World} {S : Nat → Prop} {d : Nat} {i : Bool} {eT : TypeId} {l : List Vt} {G j : Nat} {x : Vt} {v' : Value} (hS : ∀ b, S b → b < w.heap.size) (h : CeI w wr S d i eT l G j) (hx : l[j]? = some x) (hn : NiAt w2 wr.heap.size d i x v') (o : Only (fun _ => False) wr w2) : CeI w (w2.setCell ⟨G, j, none⟩ v') S d i eT l G (j + 1) := by
  obtain ⟨vs, S', h1, h2, h3, h4, h5, h6, h7⟩ := h
  obtain ⟨S2, t2, s2⟩ := hn
  have hGlt : G < wr.heap.size := (Array.getElem?_eq_some_iff.1 h2).1
  have hw2 : w2.heap[G]? = some (.cells vs.toArray eT) := (o.block G hGlt (fun g => g)).trans h2
  have hjl : j < l.length := (List.getElem?_eq_some_iff.1 hx).1
  have oo : Only (fun b => b = G) w2 (w2.setCell ⟨G, j, none⟩ v') := (Only.refl _ _).setCell ⟨G, j, none⟩ v' (fun _ => rfl)
  have hsz : (w2.setCell ⟨G, j, none⟩ v').heap.size = w2.heap.size := by simp
  refine ⟨vs.set j v', fun b => S' b ∨ S2 b, by simpa using h1, ?_, (h3.trans o (fun _ _ g => g)).trans oo (fun b hb e => by omega), h4, fun b hb => ?_, fun u hu => ?_, fun k y hy => ?_⟩
  · rw [heap_setCell_same w2 G j vs.toArray eT v' hw2]
    simp
  · rcases hb with g | g
    · obtain ⟨a1, a2, a3⟩ := h5 b g
      exact ⟨a1, (a2.only o (fun g => g)).only oo a3, a3⟩
    · obtain ⟨a1, a2⟩ := s2 b g
      have a3 : b ≠ G := by omega
      exact ⟨Nat.le_trans h3.size a1, a2.only oo a3, a3⟩
  · rcases List.mem_or_eq_of_mem_set hu with g | g
    · exact h6 u g
    · rw [g]; exact t2.one
  · obtain ⟨u, p1, p2, p3⟩ := h7 k y hy
    have nS : ∀ b, S b → ¬ b = G := fun b g e => by have := hS b g; omega
    by_cases hk : k = j
    · subst hk
      rw [hx] at hy
      injection hy with hy
      subst hy
      refine ⟨v', by rw [List.getElem?_set_self (by omega)], fun _ => ?_, fun g => by omega⟩
      exact (t2.only oo (fun b g e => by have := (s2 b g).1; omega)).step (fun _ g => .inr g) (fun _ _ _ g => g) (Nat.le_refl _)
    · refine ⟨u, by rw [List.getElem?_set_ne (fun e => hk e.symm)]; exact p1, fun g => ?_, fun g => ?_⟩
      · have t1 := p2 (by omega)
        exact ((t1.only o (fun _ _ g => g)).only oo (fun b g => (h5 b g).2.2)).step (fun _ g => .inl g) (fun _ _ _ g => g) (Nat.le_refl _)
      · exact ((p3 (by omega)).only o (fun _ _ g => g)).only oo nS
end Go.Proofs.YtmpfbjmaiddigaaGreatDoor
namespace Go.Proofs.YtmpfbjmaiddigaaGreatDoor
open Go.RowKit Go.Lib
set_option linter.unusedSimpArgs false
set_option linter.unusedVariables false
/-- what is written over a value, over an item -/
def Lint : Value := .iface 88 (.agg #[.int .i64 99])
def Lcall : Value := .iface 48 (.agg #[.string ⟨#[103, 111, 110, 101]⟩])
/-- v may be gone through, d deep: its lists lie in blocks of S -/
def SpAt (w : World) (S : Nat → Prop) : Nat → Value → Prop
  | 0, _ => False
  | d + 1, v => v = .nilIface ∨ ∃ T y, v = .iface T y ∧ ((T = 85 ∨ T = 90) → ∃ ao n cap, y = .agg #[.slice ao n cap] ∧ n ≤ cap ∧ n ≤ 2513169434900 ∧ ∀ j, j < n → ∃ g k u, ao = some ⟨g, k, none⟩ ∧ S g ∧ w.cell? ⟨g, k + j, none⟩ = some u ∧ SpAt w S d u) ∧ (T = 81 → ∃ u, y = .agg #[u] ∧ SpAt w S d u)
/-- a value or an item that holds no others -/
def Lfv (u : Value) : Prop := ∃ T y, u = .iface T y ∧ T ≠ 85 ∧ T ≠ 90 ∧ T ≠ 81
theorem lfv_int (n : Int) : Lfv (.iface 88 (.agg #[.int .i64 n])) := ⟨_, _, rfl, by decide, by decide, by decide⟩
theorem lfv_lint : Lfv Lint := lfv_int 99
theorem lfv_call : Lfv Lcall := ⟨_, _, rfl, by decide, by decide, by decide⟩
theorem sp_leaf {u : Value} (h : Lfv u) (w : World) (S : Nat → Prop) (d : Nat) : SpAt w S (d + 1) u := by
  obtain ⟨T, y, rfl, h1, h2, h3⟩ := h
  exact .inr ⟨T, y, rfl, fun g => by rcases g with g | g; exact absurd g h1; exact absurd g h2, fun g => absurd g h3⟩
theorem SpAt.deep {w : World} {S : Nat → Prop} : ∀ {d d' : Nat} {v : Value}, d ≤ d' → SpAt w S d v → SpAt w S d' v
  | 0, _, _, _, h => h.elim
  | d + 1, 0, _, hd, _ => by omega
  | d + 1, e + 1, v, hd, h => by
    rcases h with h | ⟨T, y, hv, h1, h2⟩
    · exact .inl h
    · refine .inr ⟨T, y, hv, fun hT => ?_, fun hT => ?_⟩
      · obtain ⟨ao, n, cap, p1, p2, p3, p4⟩ := h1 hT
        refine ⟨ao, n, cap, p1, p2, p3, fun j hj => ?_⟩
        obtain ⟨g, k, u, q1, q2, q3, q4⟩ := p4 j hj
        exact ⟨g, k, u, q1, q2, q3, q4.deep (by omega)⟩
      · obtain ⟨u, p1, p2⟩ := h2 hT
        exact ⟨u, p1, p2.deep (by omega)⟩
/-- what may have been done to the blocks S -/
def Spl (S : Nat → Prop) (w w' : World) : Prop := Only S w w' ∧ (∀ b, S b → Liv w b → Liv w' b) ∧ ∀ (a : Addr) u, S a.block → w.cell? a = some u → ∃ u', w'.cell? a = some u' ∧ (u' = u ∨ Lfv u')
theorem Spl.of {S : Nat → Prop} {w w' : World} (o : Only (fun _ => False) w w') : Spl S w w' := ⟨o.mono (fun _ _ h => h.elim), fun b _ h => h.only o (fun g => g), fun a u _ hc => ⟨u, o.cell hc (fun g => g), .inl rfl⟩⟩
theorem Spl.trans {S : Nat → Prop} {a b c : World} (h : Spl S a b) (k : Spl S b c) : Spl S a c := by
  refine ⟨h.1.trans k.1 (fun _ _ g => g), fun x hx hl => k.2.1 x hx (h.2.1 x hx hl), fun p u hp hu => ?_⟩
  obtain ⟨u1, h1, h2⟩ := h.2.2 p u hp hu
  obtain ⟨u2, k1, k2⟩ := k.2.2 p u1 hp h1
  refine ⟨u2, k1, ?_⟩
  rcases k2 with rfl | k2
  · exact h2
  · exact .inr k2
theorem Spl.set {S : Nat → Prop} {w : World} {g k : Nat} {u x : Value} (hS : S g) (hl : Liv w g) (hc : w.cell? ⟨g, k, none⟩ = some u) (hx : Lfv x) : Spl S w (w.setCell ⟨g, k, none⟩ x) := by
  obtain ⟨h1, c, t, hb⟩ := hl
  have o : Only S w (w.setCell ⟨g, k, none⟩ x) := (Only.refl _ _).setCell _ _ (fun _ => hS)
  have og : Only (fun b => b = g) w (w.setCell ⟨g, k, none⟩ x) := (Only.refl _ _).setCell _ _ (fun _ => rfl)
  have hs := heap_setCell_same w g k c t x hb
  refine ⟨o, fun b hb' hl' => ?_, fun a y ha hy => ?_⟩
  · by_cases e : b = g
    · subst e
      exact Liv.of hs
    · exact hl'.only og e
  · by_cases e : a.block = g
    · obtain ⟨ab, ao, asp⟩ := a
      simp only at e
      subst e
      have hsp : asp = none := World.cell?_spot hy
      subst hsp
      rw [vblk_cells hb] at hy hc
      rw [vblk_cells hs]
      by_cases e2 : ao = k
      · subst e2
        have := (Array.getElem?_eq_some_iff.1 hc).1
        exact ⟨x, by simp [this], .inr hx⟩
      · exact ⟨y, by rw [← hy]; simp [Array.setIfInBounds, Array.getElem?_set]; split <;> simp [Array.getElem?_set, Ne.symm e2], .inl rfl⟩
    · exact ⟨y, og.cell hy e, .inl rfl⟩
theorem SpAt.keep {S : Nat → Prop} {w w' : World} (h : Spl S w w') : ∀ {d : Nat} {v : Value}, SpAt w S d v → SpAt w' S d v
  | 0, _, g => g.elim
  | d + 1, v, g => by
    rcases g with g | ⟨T, y, hv, h1, h2⟩
    · exact .inl g
    · refine .inr ⟨T, y, hv, fun hT => ?_, fun hT => ?_⟩
      · obtain ⟨ao, n, cap, p1, p2, p3, p4⟩ := h1 hT
        refine ⟨ao, n, cap, p1, p2, p3, fun j hj => ?_⟩
        obtain ⟨q, k, u, q1, q2, q3, q4⟩ := p4 j hj
        obtain ⟨u', c1, c2⟩ := h.2.2 ⟨q, k + j, none⟩ u q2 q3
        refine ⟨q, k, u', q1, q2, c1, ?_⟩
        cases d with
        | zero => exact q4.elim
        | succ d =>
          rcases c2 with rfl | c2
          · exact SpAt.keep h q4
          · exact sp_leaf c2 _ _ _
      · obtain ⟨u, p1, p2⟩ := h2 hT
        exact ⟨u, p1, SpAt.keep h p2⟩
theorem SmT.parts' {d : Nat} {t : Vt} (h : SmT d t) : t.l.length ≤ 2513169434900 ∧ ∀ x ∈ t.l, ∃ e, SmT e x := by
  cases d with
  | zero => exact h.elim
  | succ d => exact ⟨h.2.1, fun x hx => ⟨d, h.2.2.2.2 x hx⟩⟩
theorem TiAt.sp {w : World} {S : Nat → Prop} : ∀ {d : Nat} {i : Bool} {t : Vt} {v : Value}, (∃ e, SmT e t) → TiAt w S d i t v → SpAt w S d v
  | 0, _, _, _, _, h => h.elim
  | d + 1, true, t, v, hs, h => by
    rcases h with ⟨_, _, rfl⟩ | ⟨_, _, rfl⟩ | ⟨_, _, u, rfl, hu⟩
    · exact .inr ⟨_, _, rfl, fun h => by rcases h with h | h <;> exact absurd h (by decide), fun h => absurd h (by decide)⟩
    · exact .inl rfl
    · exact .inr ⟨_, _, rfl, fun h => by rcases h with h | h <;> exact absurd h (by decide), fun _ => ⟨u, rfl, TiAt.sp hs hu⟩⟩
  | d + 1, false, t, v, hs, h => by
    rcases h with ⟨_, _, rfl⟩ | ⟨_, _, rfl⟩ | ⟨_, _, rfl⟩ | ⟨_, _, rfl⟩ | ⟨_, _, rfl⟩ | ⟨hk, ao, cap, rfl, hc, hl⟩
    · exact .inr ⟨_, _, rfl, fun h => by rcases h with h | h <;> exact absurd h (by decide), fun h => absurd h (by decide)⟩
    · exact .inr ⟨_, _, rfl, fun h => by rcases h with h | h <;> exact absurd h (by decide), fun h => absurd h (by decide)⟩
    · exact .inr ⟨_, _, rfl, fun h => by rcases h with h | h <;> exact absurd h (by decide), fun h => absurd h (by decide)⟩
    · exact .inr ⟨_, _, rfl, fun h => by rcases h with h | h <;> exact absurd h (by decide), fun h => absurd h (by decide)⟩
    · exact .inl rfl
    · obtain ⟨e, hs⟩ := hs
      obtain ⟨s1, s2⟩ := hs.parts'
      refine .inr ⟨_, _, rfl, fun _ => ⟨ao, t.l.length, cap, rfl, hc, s1, fun j hj => ?_⟩, fun h => by split at h <;> exact absurd h (by decide)⟩
      obtain ⟨g, k, u, q1, q2, q3, q4⟩ := hl j (t.l[j]'hj) (List.getElem?_eq_getElem hj)
      exact ⟨g, k, u, q1, q2, q3, TiAt.sp (s2 _ (List.getElem_mem hj)) q4⟩
end Go.Proofs.YtmpfbjmaiddigaaGreatDoor
namespace Go.Proofs.YtmpfbjmaiddigaaGreatDoor
open Go.RowKit
set_option linter.unusedSimpArgs false
set_option linter.unusedVariables false
/-- the number and the text that a tree of its kind has -/
def vnn (t : Vt) : Int := if t.k = 1 ∨ t.k = 6 then t.n else if t.k = 3 then (if t.n != 0 then 1 else 0) else 0
def vss (t : Vt) : ByteArray := if t.k = 2 ∨ t.k = 7 then t.s else ⟨#[]⟩
/-- a tree as values have it: no number and no text but where its kind has one -/
def NfT : Nat → Vt → Prop
  | 0, _ => False
  | d + 1, t => t.l.length ≤ 2513169434900 ∧ (-9223372036854775808 ≤ t.n ∧ t.n ≤ 9223372036854775807) ∧ t.n = vnn t ∧ t.s = vss t ∧ ∀ x ∈ t.l, NfT d x
theorem NfT.mono : ∀ {d d' : Nat} {t : Vt}, d ≤ d' → NfT d t → NfT d' t
  | 0, _, _, _, h => h.elim
  | d + 1, 0, t, hd, h => by omega
  | d + 1, e + 1, t, hd, h => ⟨h.1, h.2.1, h.2.2.1, h.2.2.2.1, fun x hx => (h.2.2.2.2 x hx).mono (by omega)⟩
theorem nf8 {d : Nat} : NfT (d + 1) ⟨8, 0, ⟨#[]⟩, []⟩ := ⟨Nat.zero_le _, ⟨by decide, by decide⟩, rfl, rfl, fun x hx => by cases hx⟩
theorem nm_nf : ∀ (d : Nat) (i : Bool) (t : Vt), SmT d t → NfT d (nm d i t)
  | 0, _, _, h => h.elim
  | d + 1, i, t, h => by
    obtain ⟨k, n, s, l⟩ := t
    obtain ⟨h1, h2, h3, h4, h5⟩ := h
    dsimp only at h1 h2 h3 h4 h5
    unfold nm
    dsimp only
    have z0 : (-9223372036854775808 : Int) ≤ 0 ∧ (0 : Int) ≤ 9223372036854775807 := ⟨by decide, by decide⟩
    split
    · exact ⟨Nat.zero_le _, h4, rfl, rfl, fun x hx => by cases hx⟩
    split
    · exact ⟨Nat.zero_le _, z0, rfl, rfl, fun x hx => by cases hx⟩
    split
    · refine ⟨Nat.zero_le _, ?_, ?_, rfl, fun x hx => by cases hx⟩ <;> dsimp only [vnn] <;> cases n != 0 <;> decide
    split
    · refine ⟨by simpa using h2, z0, rfl, rfl, fun x hx => ?_⟩
      obtain ⟨y, hy, rfl⟩ := List.mem_map.1 hx
      exact nm_nf d false y (h5 y hy)
    split
    · refine ⟨by simpa using h2, z0, rfl, rfl, fun x hx => ?_⟩
      obtain ⟨y, hy, rfl⟩ := List.mem_map.1 hx
      exact nm_nf d true y (h5 y hy)
    split
    · exact ⟨Nat.zero_le _, h4, rfl, rfl, fun x hx => by cases hx⟩
    split
    · exact ⟨Nat.zero_le _, z0, rfl, rfl, fun x hx => by cases hx⟩
    · exact nf8
def NuAt (w : World) (B d : Nat) (t : Vt) (lv : Value) : Prop := ∃ S, VsAt w S d t.l lv ∧ ∀ b, S b → B ≤ b ∧ b < w.heap.size
theorem NuAt.only {w w' : World} {B d : Nat} {t : Vt} {lv : Value} {bs : Nat → Prop} (h : NuAt w B d t lv) (o : Only bs w w') (hb : ∀ b, B ≤ b → ¬ bs b) : NuAt w' B d t lv := by
  obtain ⟨S, ht, hS⟩ := h
  exact ⟨S, ht.step (fun _ g => g) (fun a u hs hc => o.cell hc (hb _ (hS _ hs).1)) (Nat.le_refl _), fun b hbS => ⟨(hS b hbS).1, Nat.lt_of_lt_of_le (hS b hbS).2 o.size⟩⟩
theorem NuAt.lower {w : World} {B C d : Nat} {t : Vt} {lv : Value} (h : NuAt w B d t lv) (hC : C ≤ B) : NuAt w C d t lv := by
  obtain ⟨S, ht, hS⟩ := h
  exact ⟨S, ht, fun b hbS => ⟨Nat.le_trans hC (hS b hbS).1, (hS b hbS).2⟩⟩
theorem NuAt.deep {w : World} {B d d' : Nat} {t : Vt} {lv : Value} (h : NuAt w B d t lv) (hd : d ≤ d') : NuAt w B d' t lv := by
  obtain ⟨S, ht, hS⟩ := h
  exact ⟨S, ht.step (fun _ g => g) (fun _ _ _ g => g) hd, hS⟩
theorem nu_nil {w : World} {B d : Nat} {t : Vt} (h : t.l = []) : NuAt w B (d + 1) t (.slice none 0 0) :=
  ⟨fun _ => False, ⟨none, 0, by rw [h]; rfl, by rw [h]; exact Nat.zero_le _, fun i x hx => by rw [h] at hx; simp at hx⟩, fun b h => h.elim⟩
theorem NuAt.form {w : World} {B d : Nat} {t : Vt} {lv : Value} (h : NuAt w B d t lv) : ∃ ao cap, lv = .slice ao t.l.length cap := by
  obtain ⟨S, ht, _⟩ := h
  cases d with
  | zero => exact ht.elim
  | succ d => obtain ⟨ao, cap, hv, _⟩ := ht; exact ⟨ao, cap, hv⟩
/-- a row of the document's trees that was made since block B -/
def UrAt (w : World) (B d : Nat) (v : Value) (l : List Vt) : Prop :=
  ∃ us S, w.ownsRow B 54 4 v l.length us ∧ (∀ (j : Nat) (x : Vt), l[j]? = some x → ∃ lx, (us[j * 4]? = some (.int .i64 x.k) ∧ us[j * 4 + 1]? = some (.int .i64 (x.n)) ∧ us[j * 4 + 2]? = some (.string (x.s)) ∧ us[j * 4 + 3]? = some lx) ∧ VsAt w S d x.l lx) ∧ ∀ b, S b → B ≤ b ∧ b < w.heap.size ∧ v.ownBlock ≠ some b
theorem ur_nil (w : World) (B d : Nat) : UrAt w B d (.slice none 0 0) [] :=
  ⟨[], fun _ => False, ⟨rfl, .inl ⟨rfl, rfl⟩⟩, fun j x h => by simp at h, fun b h => h.elim⟩
theorem UrAt.form {w : World} {B d : Nat} {v : Value} {l : List Vt} (h : UrAt w B d v l) : ∃ ao cap, v = .slice ao l.length cap := by
  obtain ⟨us, S, ho, _⟩ := h
  rcases ho.2 with ⟨h1, h2⟩ | ⟨g, cap, cur, h1, _⟩
  · exact ⟨_, _, by rw [h1, h2]⟩
  · exact ⟨_, _, h1⟩
theorem UrAt.only {w w' : World} {B d : Nat} {v : Value} {l : List Vt} {bs : Nat → Prop} (h : UrAt w B d v l) (o : Only bs w w') (hb : ∀ b, B ≤ b → ¬ bs b) : UrAt w' B d v l := by
  obtain ⟨us, S, ho, ht, hS⟩ := h
  refine ⟨us, S, o.owns ho (fun k hk => hb k (ho.lt k hk).1), fun j x hx => ?_, fun b hbS => ?_⟩
  · obtain ⟨lx, hu, h2⟩ := ht j x hx
    exact ⟨lx, hu, h2.step (fun _ g => g) (fun a u hs hc => o.cell hc (hb _ (hS _ hs).1)) (Nat.le_refl _)⟩
  · obtain ⟨h1, h2, h3⟩ := hS b hbS
    exact ⟨h1, Nat.lt_of_lt_of_le h2 o.size, h3⟩
theorem UrAt.snoc {w w' : World} {B C d : Nat} {v v' : Value} {l : List Vt} {t : Vt} {lv : Value} {us : List Value} {S : Nat → Prop} (hg : w.grownBy w' v.ownBlock) (ho : w.ownsRow B 54 4 v l.length us) (ht : ∀ (j : Nat) (x : Vt), l[j]? = some x → ∃ lx, (us[j * 4]? = some (.int .i64 x.k) ∧ us[j * 4 + 1]? = some (.int .i64 (x.n)) ∧ us[j * 4 + 2]? = some (.string (x.s)) ∧ us[j * 4 + 3]? = some lx) ∧ VsAt w S d x.l lx) (hS : ∀ b, S b → B ≤ b ∧ b < w.heap.size ∧ v.ownBlock ≠ some b)
    (hn : NuAt w C d t lv) (hC : B ≤ C) (hv : ∀ k, v.ownBlock = some k → k < C) (ho' : w'.ownsRow B 54 4 v' (l.length + 1) (us ++ [.int .i64 t.k, .int .i64 (t.n), .string (t.s), lv])) (hat : v'.ownBlock = v.ownBlock ∨ v'.ownBlock = some w.heap.size) : UrAt w' B d v' (l ++ [t]) := by
  obtain ⟨S1, t1, s1⟩ := hn
  have oo : Only (fun k => v.ownBlock = some k) w w' := (Only.refl _ w).grown hg (fun k e _ => e)
  have a1 : ∀ b, S b → ¬ v.ownBlock = some b := fun b h => (hS b h).2.2
  have a2 : ∀ b, S1 b → ¬ v.ownBlock = some b := fun b h e => by have := hv b e; have := (s1 b h).1; omega
  have hl : us.length = l.length * 4 := ho.1
  refine ⟨_, fun b => S b ∨ S1 b, by simpa using ho', fun j x hx => ?_, fun b hb => ?_⟩
  · by_cases hj : j < l.length
    · rw [List.getElem?_append_left hj] at hx
      obtain ⟨lx, ⟨h0, h1, h2, h3⟩, h6⟩ := ht j x hx
      have ap : ∀ i u, us[i]? = some u → (us ++ [.int .i64 t.k, .int .i64 (t.n), .string (t.s), lv])[i]? = some u := fun i u hu => by
        rw [List.getElem?_append_left (List.getElem?_eq_some_iff.1 hu).1]; exact hu
      exact ⟨lx, ⟨ap _ _ h0, ap _ _ h1, ap _ _ h2, ap _ _ h3⟩, h6.step (fun _ g => .inl g) (fun a y hs hc => oo.cell hc (a1 _ hs)) (Nat.le_refl _)⟩
    · have hj2 : j < (l ++ [t]).length := (List.getElem?_eq_some_iff.1 hx).1
      have hj3 : j = l.length := by simp at hj2; omega
      subst hj3
      simp at hx
      subst hx
      have ap : ∀ i, (us ++ [.int .i64 t.k, .int .i64 (t.n), .string (t.s), lv])[l.length * 4 + i]? = ([.int .i64 t.k, .int .i64 (t.n), .string (t.s), lv] : List Value)[i]? := fun i => by
        rw [List.getElem?_append_right (by omega)]
        congr 1
        omega
      exact ⟨lv, ⟨ap 0, ap 1, ap 2, ap 3⟩, t1.step (fun _ g => .inr g) (fun a y hs hc => oo.cell hc (a2 _ hs)) (Nat.le_refl _)⟩
  · have h1 : B ≤ b ∧ b < w.heap.size ∧ v.ownBlock ≠ some b := by
      rcases hb with h | h
      · exact hS b h
      · exact ⟨Nat.le_trans hC (s1 b h).1, (s1 b h).2, a2 b h⟩
    refine ⟨h1.1, Nat.lt_of_lt_of_le h1.2.1 oo.size, ?_⟩
    rcases hat with e | e <;> rw [e]
    · exact h1.2.2
    · intro e2
      injection e2 with e2
      have := h1.2.1
      omega
/-- a row as the parts of a tree -/
theorem UrAt.tree {w : World} {B d : Nat} {v : Value} {l : List Vt} {t : Vt} (h : UrAt w B d v l) (e : t.l = l) : NuAt w B (d + 1) t v := by
  subst e
  obtain ⟨us, S, ho, ht, hS⟩ := h
  refine ⟨fun b => S b ∨ v.ownBlock = some b, ?_, fun b hb => ?_⟩
  · rcases ho.2 with ⟨rfl, h2⟩ | ⟨g, cap, cur, hv, hB, hg, hn, hcm, hcs, htk⟩
    · exact ⟨none, 0, by rw [h2], by omega, fun i x hx => by have := (List.getElem?_eq_some_iff.1 hx).1; omega⟩
    · refine ⟨some ⟨g, 0, none⟩, cap, hv, hn, fun i x hx => ?_⟩
      obtain ⟨lx, ⟨h0, h1, h2, h3⟩, h4⟩ := ht i x hx
      have hc : ∀ j u, us[j]? = some u → w.cell? ⟨g, 0 + j, none⟩ = some u := fun j u hu => by
        have := ho.cells (g := g) (by rw [hv]; rfl) j u hu
        rwa [addr_ad, ← Nat.zero_add j] at this
      exact ⟨g, 0, lx, rfl, .inr (by rw [hv]; rfl), ⟨hc _ _ h0, hc _ _ h1, hc _ _ h2, hc _ _ h3⟩, h4.step (fun _ g => .inl g) (fun _ _ _ g => g) (Nat.le_refl _)⟩
  · rcases hb with h | h
    · exact ⟨(hS b h).1, (hS b h).2.1⟩
    · exact ho.lt b h
/-- what a type assertion with two values answers -/
theorem uas_hit (T xt : TypeId) (D : TypeDesc) (hD : Tryz.prog.underlying T = some D) (hn : ∀ m, D ≠ .interface m) (x : Value) (W : World) : (Instr.typeAssert (.iface T x) xt T true).run Tryz.prog W = .ok (.tuple #[x, .bool true]) W := by
  simp only [Instr.typeAssert, Sem.run_bind, run_underlying hD, Result.andThen_ok]
  cases D <;> simp_all
theorem uas_miss (T U xt : TypeId) (D : TypeDesc) (hD : Tryz.prog.underlying U = some D) (hn : ∀ m, D ≠ .interface m) (hT : T ≠ U) (z : Value) (hz : ∀ W : World, (zeroValue U).run Tryz.prog W = .ok z W) (x : Value) (W : World) : (Instr.typeAssert (.iface T x) xt U true).run Tryz.prog W = .ok (.tuple #[z, .bool false]) W := by
  simp only [Instr.typeAssert, Sem.run_bind, run_underlying hD, Result.andThen_ok]
  cases D <;> simp_all
theorem uas_nil (U xt : TypeId) (D : TypeDesc) (hD : Tryz.prog.underlying U = some D) (hn : ∀ m, D ≠ .interface m) (z : Value) (hz : ∀ W : World, (zeroValue U).run Tryz.prog W = .ok z W) (W : World) : (Instr.typeAssert .nilIface xt U true).run Tryz.prog W = .ok (.tuple #[z, .bool false]) W := by
  simp only [Instr.typeAssert, Sem.run_bind, run_underlying hD, Result.andThen_ok]
  cases D <;> simp_all
/-- trees in a slice of values or items -/
def QiAt (w : World) (S : Nat → Prop) (d : Nat) (i : Bool) (v : Value) (l : List Vt) : Prop := ∃ ao cap, v = .slice ao l.length cap ∧ l.length ≤ cap ∧ ∀ (j : Nat) (x : Vt), l[j]? = some x → ∃ g k u, ao = some ⟨g, k, none⟩ ∧ S g ∧ w.cell? ⟨g, k + j, none⟩ = some u ∧ TiAt w S d i x u
theorem QiAt.step {w w' : World} {S S' : Nat → Prop} (hS : ∀ b, S b → S' b) (hk : ∀ (a : Addr) u, S a.block → w.cell? a = some u → w'.cell? a = some u) {d d' : Nat} {i : Bool} {l : List Vt} {v : Value} (hd : d ≤ d') (h : QiAt w S d i v l) : QiAt w' S' d' i v l := by
  obtain ⟨ao, cap, hv, hc, hl⟩ := h
  refine ⟨ao, cap, hv, hc, fun j x hx => ?_⟩
  obtain ⟨g, k, u, ha, hg, hu, ht⟩ := hl j x hx
  exact ⟨g, k, u, ha, hS g hg, hk _ _ hg hu, ht.step hS hk hd⟩
end Go.Proofs.YtmpfbjmaiddigaaGreatDoor
