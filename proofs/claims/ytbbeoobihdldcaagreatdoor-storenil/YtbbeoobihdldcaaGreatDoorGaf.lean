/-        -/
import Derived.Test.YtbbeoobihdldcaaGreatDoorGae
import Derived.Test.YtbbeoobihdldcaaGreatDoorGad
import Derived.Shelf.Unicode.ValidAny
import Derived.Test.YtbbeoobihdldcaaGreatDoorProg
import Derived.Test.YtbbeoobihdldcaaGreatDoorGac
namespace Go.Proofs.YtbbeoobihdldcaaGreatDoor
open Go.RowKit Go.Lib
set_option linter.unusedSimpArgs false
set_option linter.unusedVariables false
def resB (s : ByteArray) : Bool := s.toList == [58] || s.toList == [59] || s.toList == [40] || s.toList == [45, 45] || s.toList == [41] || s.toList == [91] || s.toList == [93] || s.toList == [123] || s.toList == [125] || s.toList == [116] || s.toList == [102]
set_option maxRecDepth 100000 in
theorem reserved_any (s : ByteArray) (w : World) :
  Calls Tryz.prog 195 #[.string s] w fun x w' => x = .returned (.bool (resB s)) ∧ w' = w := by
 go_enter Tryz.func195, Tryz.ntmps195
 go_wp2
 all_goals
  go_ret
  refine ⟨?_, rfl⟩
  first
   | (exfalso; simp_all; done)
   | (unfold resB; simp only [*, Bool.or_true, Bool.or_false, Bool.true_or, Bool.false_or]; done)
   | (unfold resB; simp_all; done)
def clB (s : ByteArray) : Bool := nameB s && !(resB s)
set_option maxRecDepth 100000 in
theorem pcallable_any (s : ByteArray) (w : World) (h : Nog w) : Calls Tryz.prog 187 #[.string s] w fun e w' => e = .returned (.bool (clB s)) ∧ Only (fun _ => False) w w' := by
 have HN : Hid _ := name_any s w h
 have HR := reserved_any s
 unfold clB
 obtain ⟨b, hb⟩ : ∃ b, b = nameB s := ⟨_, rfl⟩
 obtain ⟨r, hr⟩ : ∃ r, r = resB s := ⟨_, rfl⟩
 rw [← hb] at HN ⊢
 rw [← hr] at HR ⊢
 clear hb hr h
 go_enter Tryz.func187, Tryz.ntmps187
 go_wp2_with fail
 refine (show Calls Tryz.prog 194 _ _ _ from HN.out).mono ?_
 rintro e w1 ⟨rfl, o1⟩
 have O1 : Hid (Only (fun _ => False) w w1) := o1
 clear HN o1
 cases b with
 | false =>
   go_wp2
   go_ret
   exact ⟨rfl, O1.out⟩
 | true =>
   go_wp2_with (go_at_call 195; refine (HR _).mono ?_; rintro e w' ⟨rfl, hq⟩; rw [hq]; clear hq)
   go_ret
   exact ⟨by simp, O1.out⟩
theorem nog_keep {w w' : World} {M : Nat} (h : Nog w) (o : Only (fun b => b = M) w w') (hg : 3 ≠ M) : Nog w' := ⟨o.cell h.1 hg, o.cell h.2.1 hg, o.cell h.2.2 hg⟩
theorem nog_lt {w : World} (h : Nog w) : 3 < w.heap.size := World.block_lt_of_cell? w _ h.1
theorem wid4 (s : ByteArray) (pos : Nat) : (Utf8.decode s pos).2 ≤ 4 := by
 unfold Utf8.decode
 simp
 repeat' split
 all_goals simp
theorem crs_long {s : ByteArray} : ∀ (b pos : Nat), s.size ≤ pos + b → s.size - pos ≤ 4 * (crs s b pos).length
 | 0, pos, h => by omega
 | b + 1, pos, h => by
   by_cases hp : pos < s.size
   ·have h1 := crs_long (s := s) b (pos + (Utf8.decode s pos).2) (by have := wid_pos s pos hp; omega)
    have h2 := wid4 s pos
    have e : crs s (b + 1) pos = (pos, (Utf8.decode s pos).1) :: crs s b (pos + (Utf8.decode s pos).2) := by simp [crs, hp]
    rw [e, List.length_cons]
    omega
   ·omega
theorem nmL_short : ∀ (l : List Nat) (k : Nat), k ≤ 32 → nmL l k = true → k + l.length ≤ 32 ∧ 0 < k + l.length
 | [], k, hk, h => by simp only [nmL, decide_eq_true_eq] at h; simp; omega
 | c :: l, k, hk, h => by
   simp only [nmL] at h
   split at h
   ·cases h
   ·rename_i hn
    have := nmL_short l (k + 1) (by omega) h
    simp only [List.length_cons]
    omega
theorem name_size {s : ByteArray} (h : nameB s = true) : s.size ≤ 128 ∧ 0 < s.size := by
 unfold nameB nmdB at h
 simp only [Bool.and_eq_true] at h
 have h2 := h.2
 split at h2
 ·cases h2
 ·split at h2
  ·cases h2
  ·have h3 := nmL_short _ 0 (by omega) h2
   have h4 : (rns s).length = (crs s s.size 0).length := by simp [rns, chs]
   have h5 := crs_long (s := s) s.size 0 (by omega)
   refine ⟨by omega, ?_⟩
   rcases Nat.eq_zero_or_pos s.size with h0 | h0
   ·have h6 : (crs s s.size 0).length = 0 := by rw [crs_end (by omega)]; rfl
    omega
   ·exact h0
def cV (s : ByteArray) : Value := .iface 146 (.agg #[.string s])
theorem vzero_Push (W : World) : (zeroValue 148).run Tryz.prog W = .ok (.agg #[.nilIface]) W := by kernel_rfl
set_option maxRecDepth 100000 in
theorem pitemC (s : ByteArray) (M : Nat) (w : World) (h : MlB w M 1024) (hN : Nog w) (hg : 3 ≠ M) : Calls Tryz.prog 181 #[.pointer (some ⟨M, 0, none⟩), cV s, .int .i64 32] w fun e w' => e = .returned (.bool (clB s)) ∧ Only (fun b => b = M) w w' := by
 have mP := va_miss 146 148 86 _ Tryz.underlying148 (by intro m h; cases h) (by decide) _ vzero_Push
 have hC := va_hit 146 86 _ Tryz.underlying146 (by intro m h; cases h)
 have HM : Hid (∀ w1, Only (fun _ => False) w w1 → Calls Tryz.prog 186 #[.pointer (some ⟨M, 0, none⟩)] w1 fun e w' => e = .returned (.bool true) ∧ Only (fun b => b = M) w1 w' ∧ MlB w' M (1024 - 1)) := fun w1 o => pmore_any M 1024 w1 ((o.block M (Array.getElem?_eq_some_iff.1 h).1 (fun g => g)).trans h) (by omega) (by omega)
 have HC : Hid (∀ w1, Only (fun b => b = M) w w1 → Calls Tryz.prog 187 #[.string s] w1 fun e w' => e = .returned (.bool (clB s)) ∧ Only (fun _ => False) w1 w') := fun w1 o => pcallable_any s w1 (nog_keep hN o hg)
 have O0 : Hid (Only (fun _ => False) w w) := Only.refl _ _
 have HL : Hid (M < w.heap.size) := (Array.getElem?_eq_some_iff.1 h).1
 obtain ⟨b, hb⟩ : ∃ b, b = clB s := ⟨_, rfl⟩
 rw [← hb] at HC ⊢
 clear h hN hb hg
 unfold cV
 go_enter Tryz.func181, Tryz.ntmps181
 go_wp2_with fail
 refine (show Calls Tryz.prog 186 _ _ _ from HM.out _ (by repeat' first | exact O0.out | apply Only.alloc)).mono ?_
 rintro e w1 ⟨rfl, o1, _⟩
 have O1 : Hid (Only (fun b => b = M) w w1) := Only.trans (show Only (fun b => b = M) w _ by repeat' first | exact (Only.refl _ _) | apply Only.alloc) o1 (fun _ _ g => g)
 have x0 : w1.cell? ⟨w.heap.size, 0, none⟩ = some (.string s) := o1.cell (a := ⟨w.heap.size, 0, none⟩) (by simp [go_sem]) (by have := HL.out; simp only; omega)
 clear HM o1
 have HC1 : Hid _ := HC.out w1 O1.out
 clear HC
 go_wp2_with fail
 refine (show Calls Tryz.prog 187 _ _ _ from HC1.out).mono ?_
 rintro e w2 ⟨rfl, o2⟩
 have O2 : Hid (Only (fun b => b = M) w w2) := O1.out.trans (o2.mono (bs' := fun b => b = M) (fun _ _ g => g.elim)) (fun _ _ g => g)
 clear HC1 o2 O1
 go_wp2
 go_ret
 exact ⟨rfl, O2.out⟩
set_option maxRecDepth 100000 in
theorem psoundC (s : ByteArray) (w : World) (hN : Nog w) : Calls Tryz.prog 177 #[cV s] w fun e w' => e = .returned (.bool (clB s)) ∧ Only (fun _ => False) w w' := by
 have HI : Hid (Calls Tryz.prog 181 #[.pointer (some ⟨w.heap.size, 0, none⟩), cV s, .int .i64 32] (w.alloc (.cells #[.int .i64 1024] 263)) fun e w' => e = .returned (.bool (clB s)) ∧ Only (fun b => b = w.heap.size) (w.alloc (.cells #[.int .i64 1024] 263)) w') := pitemC s w.heap.size _ (va_at _ _ _ rfl) (hN.frame ((Only.refl _ w).alloc _)) (Nat.ne_of_lt (nog_lt hN))
 clear hN
 go_enter Tryz.func177, Tryz.ntmps177
 go_wp2_with fail
 refine (show Calls Tryz.prog 181 _ _ _ from HI.out).mono ?_
 rintro e w1 ⟨rfl, o1⟩
 have O1 : Hid (Only (fun _ => False) w w1) := ((Only.refl (fun _ => False) w).alloc _).trans o1 (fun k hk e => by omega)
 clear HI o1
 go_wp2
 go_ret
 exact ⟨rfl, O1.out⟩
set_option maxRecDepth 100000 in
theorem psoundsC (s : ByteArray) (w : World) (g : Nat) (hg : w.cell? ⟨g, 0, none⟩ = some (cV s)) (hN : Nog w) : Calls Tryz.prog 174 #[.slice (some ⟨g, 0, none⟩) 1 1] w fun e w' => e = .returned (.bool (clB s)) ∧ Only (fun _ => False) w w' := by
 have HI : Hid (Calls Tryz.prog 177 #[cV s] w fun e w' => e = .returned (.bool (clB s)) ∧ Only (fun _ => False) w w') := psoundC s w hN
 unfold cV at hg HI
 obtain ⟨b, hb⟩ : ∃ b, b = clB s := ⟨_, rfl⟩
 rw [← hb] at HI ⊢
 clear hN hb
 go_enter Tryz.func174, Tryz.ntmps174
 go_wp2
 go_loopw [7] (fun r wr => ∃ i : Int, r = .int .i64 i ∧ ((i = 0 ∧ wr = w) ∨ (i = 1 ∧ b = true ∧ Hid (Only (fun _ => False) w wr)))) (fun r _ => 1 - uOf r)
 case atStart => exact ⟨0, rfl, .inl ⟨rfl, rfl⟩⟩
 case round =>
  obtain ⟨i, rfl, ⟨rfl, hw⟩ | ⟨rfl, hb, HO⟩⟩ := hrel
  ·rw [hw]
   clear hw
   go_wp2_with fail
   refine (show Calls Tryz.prog 177 _ _ _ from HI.out).mono ?_
   rintro e w2 ⟨rfl, o2⟩
   have O2 : Hid (Only (fun _ => False) w w2) := o2
   clear HI o2 hg
   cases b with
   | false =>
     go_wp2
     go_ret
     exact ⟨rfl, O2.out⟩
   | true =>
     go_wp2
     go_roundw
     case rel => exact ⟨1, rfl, .inr ⟨rfl, trivial, O2⟩⟩
     case measure => simp [uOf]
  ·subst hb
   clear HI hg
   go_wp2
   go_ret
   exact ⟨rfl, HO.out⟩
set_option maxRecDepth 100000 in
theorem witemC (s : ByteArray) (hs : s.size ≤ 1000000) (B b : Nat) (w : World) (h : WrU B b [] false w) (hBw : B ≤ w.heap.size) : Calls Tryz.prog 178 #[.pointer (some ⟨b, 0, none⟩), cV s] w fun e w' => e = .returned (.tuple #[]) ∧ Hid (WrU B b (strCells s) true w' ∧ Only (fun k => B ≤ k) w w') := by
 have mP := va_miss 146 148 86 _ Tryz.underlying148 (by intro m h; cases h) (by decide) _ vzero_Push
 have hC := va_hit 146 86 _ Tryz.underlying146 (by intro m h; cases h)
 have HW : Hid (∀ w1, Only (fun _ => False) w w1 → Calls Tryz.prog 183 #[.pointer (some ⟨b, 0, none⟩), .string s] w1 fun e w' => e = .returned (.tuple #[]) ∧ Hid (WrU B b ([] ++ strCells s) true w' ∧ Only (fun k => B ≤ k) w1 w')) := fun w1 o => wword_first B b [] s w1 (h.only o) (by simp) hs (Nat.le_trans hBw o.size)
 have O0 : Hid (Only (fun _ => False) w w) := Only.refl _ _
 clear h hBw
 unfold cV
 go_enter Tryz.func178, Tryz.ntmps178
 go_wp2_with fail
 refine (show Calls Tryz.prog 183 _ _ _ from HW.out _ (by repeat' first | exact O0.out | apply Only.alloc)).mono ?_
 rintro e w1 ⟨rfl, g1⟩
 have G1 : Hid (WrU B b (strCells s) true w1 ∧ Only (fun k => B ≤ k) w w1) := ⟨g1.out.1, Only.trans (show Only (fun k => B ≤ k) w _ by repeat' first | exact (Only.refl _ _) | apply Only.alloc) g1.out.2 (fun _ _ g => g)⟩
 clear HW g1
 go_wp2
 go_end0
 exact ⟨rfl, G1.out⟩
set_option maxRecDepth 100000 in
theorem witemsC (s : ByteArray) (hs : s.size ≤ 1000000) (B b g : Nat) (w : World) (h : WrU B b [] false w) (hBw : B ≤ w.heap.size) (hg : w.cell? ⟨g, 0, none⟩ = some (cV s)) : Calls Tryz.prog 175 #[.pointer (some ⟨b, 0, none⟩), .slice (some ⟨g, 0, none⟩) 1 1] w fun e w' => e = .returned (.tuple #[]) ∧ Hid (WrU B b (strCells s) true w' ∧ Only (fun k => B ≤ k) w w') := by
 have HI : Hid (Calls Tryz.prog 178 #[.pointer (some ⟨b, 0, none⟩), cV s] w fun e w' => e = .returned (.tuple #[]) ∧ Hid (WrU B b (strCells s) true w' ∧ Only (fun k => B ≤ k) w w')) := witemC s hs B b w h hBw
 unfold cV at HI hg
 clear h hBw
 go_enter Tryz.func175, Tryz.ntmps175
 go_wp2
 go_loopw [8] (fun r wr => (r = .int .i64 0 ∧ wr = w) ∨ (r = .int .i64 1 ∧ Hid (WrU B b (strCells s) true wr ∧ Only (fun k => B ≤ k) w wr))) (fun r _ => 1 - uOf r)
 case atStart => exact .inl ⟨rfl, rfl⟩
 case round =>
  rcases hrel with ⟨rfl, rfl⟩ | ⟨rfl, HO⟩
  ·go_wp2_with fail
   refine (show Calls Tryz.prog 178 _ _ _ from HI.out).mono ?_
   rintro e w2 ⟨rfl, g2⟩
   clear HI hg
   go_wp2
   go_roundw
   case rel => exact .inr ⟨rfl, g2⟩
   case measure => simp [uOf]
  ·obtain ⟨w1, rfl⟩ : ∃ w1, w1 = wr := ⟨_, rfl⟩
   go_wp2
   go_end0
   exact ⟨rfl, HO⟩
theorem byteCells_str (s : ByteArray) : Lib.byteCells s.data.toList = strCells s := by
 first | rfl | simp [Lib.byteCells, strCells]
set_option maxRecDepth 100000 in
theorem textC (s : ByteArray) (g : Nat) (w : World) (hg : w.cell? ⟨g, 0, none⟩ = some (cV s)) (hN : Nog w) : Calls Tryz.prog 172 #[.slice (some ⟨g, 0, none⟩) 1 1] w fun e w' => e = .returned (.tuple #[.string (if clB s then s else ⟨#[]⟩), .int .i64 (if clB s then 0 else 1)]) ∧ Only (fun _ => False) w w' := by
 have HS : Hid (Calls Tryz.prog 174 #[.slice (some ⟨g, 0, none⟩) 1 1] w fun e w' => e = .returned (.bool (clB s)) ∧ Only (fun _ => False) w w') := psoundsC s w g hg hN
 have HG : Hid (w.cell? ⟨g, 0, none⟩ = some (cV s)) := hg
 obtain ⟨bb, hbb⟩ : ∃ bb, bb = clB s := ⟨_, rfl⟩
 have HB : Hid (bb = clB s) := hbb
 rw [← hbb] at HS ⊢
 clear hg hN hbb
 go_enter Tryz.func172, Tryz.ntmps172
 go_wp2_with fail
 refine (show Calls Tryz.prog 174 _ _ _ from HS.out).mono ?_
 rintro e w1 ⟨rfl, o1⟩
 have O1 : Hid (Only (fun _ => False) w w1) := o1
 cases bb with
 | false =>
   clear HS o1
   go_wp2
   go_ret2
   exact ⟨rfl, O1.out⟩
 | true =>
   have hsz : s.size ≤ 128 ∧ 0 < s.size := by
    have := HB.out
    unfold clB at this
    exact name_size (Bool.and_eq_true .. ▸ this.symm : nameB s = true ∧ _).1
   obtain ⟨b, hb⟩ : ∃ b, b = w1.heap.size := ⟨_, rfl⟩
   obtain ⟨W2, hW2⟩ : ∃ W2, W2 = w1.alloc (.cells #[.pointer none, .slice none 0 0, .bool false] 255) := ⟨_, rfl⟩
   have A2 : WrU b b [] false W2 := ⟨Nat.le_refl _, .pointer none, .slice none 0 0, by rw [hW2]; exact va_at _ _ _ hb, .inl rfl, ⟨rfl, .inl ⟨rfl, rfl⟩⟩, by simp [Value.ownBlock]⟩
   have o2 : Only (fun _ => False) w1 W2 := by rw [hW2]; exact (Only.refl _ w1).alloc _
   have HI : Hid (Calls Tryz.prog 175 #[.pointer (some ⟨b, 0, none⟩), .slice (some ⟨g, 0, none⟩) 1 1] W2 fun e w' => e = .returned (.tuple #[]) ∧ Hid (WrU b b (strCells s) true w' ∧ Only (fun k => b ≤ k) W2 w')) := witemsC s (by omega) b b g W2 A2 (by rw [hW2]; simp; omega) ((O1.out.trans o2 (fun _ _ g => g)).cell HG.out (fun h => h))
   have H2 : Hid (Only (fun _ => False) w W2 ∧ w.heap.size ≤ b) := ⟨O1.out.trans o2 (fun _ _ g => g), by rw [hb]; exact O1.out.size⟩
   have HZ : Hid (s.size ≤ 128 ∧ 0 < s.size) := hsz
   clear HS o1 A2 o2 O1 HG hsz
   go_wp2_with fail
   rw [← hb, ← hW2]
   refine (show Calls Tryz.prog 175 _ _ _ from HI.out).mono ?_
   rintro e w3 ⟨rfl, g3⟩
   have HW : Hid (Calls Tryz.prog 176 #[.pointer (some ⟨b, 0, none⟩)] w3 fun e w' => e = .returned (.tuple #[.string ⟨s.data.toList.toArray⟩, .int .i64 0]) ∧ Below b w3 w') := by
    have hl : s.data.toList.length = s.size := Array.length_toList
    refine wwhole_any b b s.data.toList true w3 (by rw [byteCells_str]; exact g3.out.1) (fun e => ?_) (by have := HZ.out; omega)
    rw [e] at hl
    have := HZ.out
    simp at hl
    omega
   have O3 : Hid (Only (fun _ => False) w w3) := H2.out.1.trans g3.out.2 (fun k hk e => by have := H2.out.2; omega)
   clear HI g3 hW2 hb
   go_wp2_with fail
   refine (show Calls Tryz.prog 176 _ _ _ from HW.out).mono ?_
   rintro e w4 ⟨rfl, b4⟩
   have O4 : Hid (Only (fun _ => False) w w4) := O3.out.trans (⟨b4.os, b4.tape, b4.output, b4.size, fun k hk hn => b4.block k (by omega)⟩ : Only (fun k => b ≤ k) w3 w4) (fun k hk e => by have := H2.out.2; omega)
   clear HW b4 O3
   go_wp2
   go_ret2
   exact ⟨by simp, O4.out⟩
set_option maxRecDepth 100000 in
theorem vcallable_any (s : ByteArray) (w : World) (hN : Nog w) : Calls Tryz.prog 170 #[.agg #[.string s]] w fun e w' => e = .returned (.bool (clB s)) ∧ Only (fun _ => False) w w' := by
 have HT : Hid (∀ w1 g, Only (fun _ => False) w w1 → w1.cell? ⟨g, 0, none⟩ = some (.iface 146 (.agg #[.string s])) → Calls Tryz.prog 172 #[.slice (some ⟨g, 0, none⟩) 1 1] w1 fun e w' => e = .returned (.tuple #[.string (if clB s then s else ⟨#[]⟩), .int .i64 (if clB s then 0 else 1)]) ∧ Only (fun _ => False) w1 w') := fun w1 g o hg => textC s g w1 hg (hN.frame o)
 have O0 : Hid (Only (fun _ => False) w w) := Only.refl _ _
 obtain ⟨bb, hbb⟩ : ∃ bb, bb = clB s := ⟨_, rfl⟩
 rw [← hbb] at HT ⊢
 clear hN hbb
 go_enter Tryz.func170, Tryz.ntmps170
 go_wp2_with fail
 refine (show Calls Tryz.prog 172 _ _ _ from HT.out _ _ (by repeat' first | exact O0.out | apply Only.alloc) (by simp [go_sem])).mono ?_
 rintro e w1 ⟨rfl, o1⟩
 have O1 : Hid (Only (fun _ => False) w w1) := Only.trans (show Only (fun _ => False) w _ by repeat' first | exact (Only.refl _ _) | apply Only.alloc) o1 (fun _ _ g => g)
 clear HT o1
 cases bb with
 | false =>
   go_wp2
   go_ret
   exact ⟨rfl, O1.out⟩
 | true =>
   go_wp2
   go_ret
   exact ⟨rfl, O1.out⟩
end Go.Proofs.YtbbeoobihdldcaaGreatDoor
namespace Go.Proofs.YtbbeoobihdldcaaGreatDoor
open Go.RowKit Go.Lib
set_option linter.unusedSimpArgs false
set_option linter.unusedVariables false
structure BadV (v : Value) : Prop where
 k : v = .nilIface ∨ ∃ T x, v = .iface T x
 l : ∀ W : World, (Instr.typeAssert v 24 82 true).run Tryz.prog W = .ok (.tuple #[.agg #[.slice none 0 0], .bool false]) W
 q : ∀ W : World, (Instr.typeAssert v 24 89 true).run Tryz.prog W = .ok (.tuple #[.agg #[.slice none 0 0], .bool false]) W
 i : ∀ W : World, (Instr.typeAssert v 24 36 true).run Tryz.prog W = .ok (.tuple #[.agg #[.int .i64 0], .bool false]) W
 s : ∀ W : World, (Instr.typeAssert v 24 79 true).run Tryz.prog W = .ok (.tuple #[.agg #[.string ByteArray.empty], .bool false]) W
 x : ∀ W : World, (Instr.typeAssert v 24 93 true).run Tryz.prog W = .ok (.tuple #[.agg #[.int .i64 0], .bool false]) W
 b : ∀ W : World, (Instr.typeAssert v 24 137 true).run Tryz.prog W = .ok (.tuple #[.agg #[.bool false], .bool false]) W
set_option maxRecDepth 100000 in
theorem bad_nil : BadV .nilIface := by
 refine ⟨.inl rfl, ?_, ?_, ?_, ?_, ?_, ?_⟩ <;> intro W <;> rfl
def VmB (w : World) (M : Nat) (k d : Int) : Prop := w.heap[M]? = some (.cells #[.int .i64 k, .int .i64 d] 196)
set_option maxRecDepth 100000 in
theorem alone_bad (v : Value) (hv : BadV v) (w : World) : Calls Tryz.prog 168 #[v] w fun e w' => e = .returned (.bool false) ∧ Only (fun _ => False) w w' := by
 have hi := hv.i
 have hs := hv.s
 have hx := hv.x
 have hb := hv.b
 have O0 : Hid (Only (fun _ => False) w w) := Only.refl _ _
 clear hv
 go_enter Tryz.func168, Tryz.ntmps168
 go_wp2
 all_goals
  go_ret
  refine ⟨rfl, ?_⟩
  repeat (first | exact O0.out | refine Only.alloc ?_ _)
end Go.Proofs.YtbbeoobihdldcaaGreatDoor
namespace Go.Proofs
open Go.Shelf
def Tryz.laysValid_ren : Go.Shelf.Ren := ⟨fun | 196 => 171 | 259 => 173 | n => n, fun | 9 => 9 | 4 => 4 | 3 => 3 | 5 => 5 | 12 => 12 | 119 => 246 | 0 => 0 | 46 => 163 | 139 => 249 | 138 => 248 | 53 => 70 | n => n, fun | 3 => 0 | 4 => 1 | n => n⟩
theorem Tryz.laysValid : Go.Proofs.Lays.n196 Tryz.prog Tryz.laysValid_ren := {
 mixed := by kernel_rfl
 f196 := Tryz.func171.trans (congrArg some (by kernel_rfl))
 f259 := Tryz.func173.trans (congrArg some (by kernel_rfl))
 t0 := Tryz.underlying0
 a0 := Tryz.isAgg0
 z0 := Tryz.sizeOf0
 v0 := Tryz.zeroValue0
 t3 := Tryz.underlying3
 a3 := Tryz.isAgg3
 z3 := Tryz.sizeOf3
 v3 := Tryz.zeroValue3
 t4 := Tryz.underlying4
 a4 := Tryz.isAgg4
 z4 := Tryz.sizeOf4
 v4 := Tryz.zeroValue4
 t5 := Tryz.underlying5
 a5 := Tryz.isAgg5
 z5 := Tryz.sizeOf5
 v5 := Tryz.zeroValue5
 t9 := Tryz.underlying9
 a9 := Tryz.isAgg9
 z9 := Tryz.sizeOf9
 v9 := Tryz.zeroValue9
 t12 := Tryz.underlying12
 a12 := Tryz.isAgg12
 z12 := Tryz.sizeOf12
 v12 := Tryz.zeroValue12
 t46 := Tryz.underlying163
 a46 := Tryz.isAgg163
 z46 := Tryz.sizeOf163
 v46 := Tryz.zeroValue163
 t53 := Tryz.underlying70
 a53 := Tryz.isAgg70
 z53 := Tryz.sizeOf70
 v53 := Tryz.zeroValue70
 t119 := Tryz.underlying246
 a119 := Tryz.isAgg246
 z119 := Tryz.sizeOf246
 t138 := Tryz.underlying248
 a138 := Tryz.isAgg248
 z138 := Tryz.sizeOf248
 v138 := Tryz.zeroValue248
 t139 := Tryz.underlying249
 a139 := Tryz.isAgg249
 z139 := Tryz.sizeOf249
 v139 := Tryz.zeroValue249
 g3 := by kernel_rfl
 g4 := by kernel_rfl }
end Go.Proofs
namespace Go.Proofs.YtbbeoobihdldcaaGreatDoor
open Go.RowKit Go.Lib
set_option linter.unusedSimpArgs false
set_option linter.unusedVariables false
def Tb (w : World) : Prop := Nog w ∧ Lib.Utf8Tabs 0 1 w
def vlB (s : ByteArray) : Bool := Lib.validD s.data.toList
def alB (t : Vt) : Bool :=
 if t.k = 1 then decide (-1152921504606846976 ≤ t.n) && decide (t.n ≤ 1152921504606846975) else if t.k = 2 then decide (t.s.size ≤ 4096) && vlB t.s
 else if t.k = 6 then decide (1 ≤ t.n) && decide (t.n ≤ 1048576) else decide (t.k = 3)
def sz : Nat → Bool → Vt → Nat
 | 0, _, _ => 1
 | d + 1, true, t => if t.k = 7 ∨ t.k = 8 then 1 else sz d false t
 | d + 1, false, t => 1 + (t.l.map (sz d (decide (t.k = 5)))).sum
def dp : Nat → Bool → Vt → Nat
 | 0, _, _ => 0
 | d + 1, true, t => if t.k = 7 ∨ t.k = 8 then 0 else dp d false t
 | d + 1, false, t => if t.k = 4 ∨ t.k = 5 then 1 + ((t.l.map (dp d (decide (t.k = 5)))).foldl max 0) else 0
def okV : Nat → Bool → Vt → Bool
 | 0, _, _ => false
 | d + 1, true, t => if t.k = 7 then clB t.s else if t.k = 8 then false else okV d false t
 | d + 1, false, t => if t.k = 4 ∨ t.k = 5 then t.l.all (okV d (decide (t.k = 5))) else alB t
def msB (d : Nat) (i : Bool) (t : Vt) (k o : Nat) : Bool := okV d i t && decide (k + sz d i t ≤ 1024) && decide (o + dp d i t ≤ 32)
def evB (d : Nat) (i : Bool) : List Vt → Nat → Nat → Bool
 | [], _, _ => true
 | x :: r, k, o => msB d i x k o && evB d i r (k + sz d i x) o
theorem sz_pos : ∀ (d : Nat) (i : Bool) (t : Vt), 1 ≤ sz d i t
 | 0, _, _ => Nat.le_refl _
 | d + 1, true, t => by
   unfold sz
   split
   ·exact Nat.le_refl _
   ·exact sz_pos d false t
 | d + 1, false, t => by unfold sz; omega
theorem foldl_max (l : List Nat) : ∀ (a : Nat), l.foldl max a = max a (l.foldl max 0) := by
 induction l with
 | nil => intro a; simp
 | cons x l ih => intro a; simp only [List.foldl_cons]; rw [ih (max a x), ih (max 0 x)]; omega
theorem evB_eq (d : Nat) (i : Bool) : ∀ (l : List Vt) (k o : Nat), k ≤ 1024 → o ≤ 32 → evB d i l k o = (l.all (okV d i) && decide (k + (l.map (sz d i)).sum ≤ 1024) && decide (o + (l.map (dp d i)).foldl max 0 ≤ 32))
 | [], k, o, hk, ho => by simp [evB, hk, ho]
 | x :: r, k, o, hk, ho => by
   have hp := sz_pos d i x
   simp only [evB, msB, List.all_cons, List.map_cons, List.sum_cons, List.foldl_cons]
   rw [foldl_max _ (max 0 (dp d i x))]
   by_cases h1 : k + sz d i x ≤ 1024
   ·rw [evB_eq d i r (k + sz d i x) o h1 ho]
    rw [Bool.eq_iff_iff]
    simp only [Bool.and_eq_true, decide_eq_true_eq]
    constructor
    ·rintro ⟨⟨⟨a1, a2⟩, a3⟩, ⟨a4, a5⟩, a6⟩
     exact ⟨⟨⟨a1, a4⟩, by omega⟩, by omega⟩
    ·rintro ⟨⟨⟨a1, a4⟩, a2⟩, a3⟩
     exact ⟨⟨⟨a1, h1⟩, by omega⟩, ⟨a4, by omega⟩, by omega⟩
   ·have e1 : decide (k + sz d i x ≤ 1024) = false := decide_eq_false h1
    have e2 : decide (k + (sz d i x + (r.map (sz d i)).sum) ≤ 1024) = false := decide_eq_false (by omega)
    rw [e1, e2]
    simp
set_option maxRecDepth 100000 in
theorem vcount_all (M : Nat) (k d : Int) (w : World) (h : VmB w M k d) (h1 : 0 ≤ k) (h2 : k ≤ 2000) : Calls Tryz.prog 163 #[.pointer (some ⟨M, 0, none⟩)] w fun e w' => e = .returned (.bool (decide (k + 1 ≤ 1024))) ∧ Only (fun b => b = M) w w' ∧ VmB w' M (k + 1) d := by
 have c0 := wr_cell h 0
 have f0 := wr_froz h 0
 simp only [List.getElem?_toArray, List.getElem?_cons_zero] at c0
 have HM : Hid (VmB w M k d) := h
 clear h
 go_enter Tryz.func163, Tryz.ntmps163
 go_wp2
 go_ret
 exact ⟨rfl, (Only.refl (fun b => b = M) w).setCell _ _ (fun _ => rfl), (heap_setCell_same _ _ _ _ _ _ HM.out).trans rfl⟩
set_option maxRecDepth 100000 in
theorem venter_all (M : Nat) (k d o : Int) (w : World) (h : VmB w M k d) (h1 : 0 ≤ d) (h2 : d ≤ 1000) (h3 : 0 ≤ o) (h4 : o ≤ 1000) : Calls Tryz.prog 164 #[.pointer (some ⟨M, 0, none⟩), .int .i64 o] w fun e w' => e = .returned (.bool (decide (o ≤ 32))) ∧ Only (fun b => b = M) w w' ∧ ∃ d', VmB w' M k d' ∧ d' = max d o ∧ d' ≤ 1000 := by
 have c1 := wr_cell h 1
 have f1 := wr_froz h 1
 simp only [List.getElem?_toArray, List.getElem?_cons_succ, List.getElem?_cons_zero] at c1
 have HM : Hid (VmB w M k d) := h
 clear h
 go_enter Tryz.func164, Tryz.ntmps164
 go_wp2
 all_goals
  go_ret
  refine ⟨rfl, (Only.refl (fun b => b = M) w).setCell _ _ (fun _ => rfl), _, (heap_setCell_same _ _ _ _ _ _ HM.out).trans rfl, ?_, ?_⟩ <;> omega
theorem valid_any (s : ByteArray) (hs : s.size ≤ 9223372036854775807) (w : World) (h : Tb w) : Calls Tryz.prog 171 #[.string s] w fun e w' => e = .returned (.bool (vlB s)) ∧ Only (fun _ => False) w w' := by
 have := Any.utf8_ValidString Tryz.laysValid s w hs h.2
 refine (show Calls Tryz.prog 171 _ _ _ from this).mono ?_
 rintro e w' ⟨he, hb⟩
 exact ⟨he, ⟨hb.os, hb.tape, hb.output, hb.size, fun k hk _ => hb.block k hk⟩⟩
end Go.Proofs.YtbbeoobihdldcaaGreatDoor
namespace Go.Proofs.YtbbeoobihdldcaaGreatDoor
open Go.RowKit Go.Lib
set_option linter.unusedSimpArgs false
set_option linter.unusedVariables false
theorem Tb.keep {w w' : World} {M : Nat} (h : Tb w) (o : Only (fun b => b = M) w w') (hg : 3 ≠ M) (h0 : 0 ≠ M) (h1 : 1 ≠ M) : Tb w' :=
 ⟨nog_keep h.1 o hg, fun c hc => o.cell (h.2.1 c hc) h0, fun i hi => ⟨o.cell (h.2.2 i hi).1 h1, o.cell (h.2.2 i hi).2 h1⟩⟩
theorem Tb.frame {w w' : World} (h : Tb w) (o : Only (fun _ => False) w w') : Tb w' :=
 ⟨h.1.frame o, fun c hc => o.cell (h.2.1 c hc) (fun g => g), fun i hi => ⟨o.cell (h.2.2 i hi).1 (fun g => g), o.cell (h.2.2 i hi).2 (fun g => g)⟩⟩
theorem Tb.lt {w : World} (h : Tb w) : 3 < w.heap.size ∧ 0 < w.heap.size ∧ 1 < w.heap.size :=
 ⟨nog_lt h.1, World.block_lt_of_cell? w _ (h.2.1 0 (by omega)), World.block_lt_of_cell? w _ (h.2.2 0 (by omega)).1⟩
theorem zI (W : World) : (zeroValue 36).run Tryz.prog W = .ok (.agg #[.int .i64 0]) W := by kernel_rfl
theorem zS (W : World) : (zeroValue 79).run Tryz.prog W = .ok (.agg #[.string ⟨#[]⟩]) W := by kernel_rfl
theorem zB (W : World) : (zeroValue 93).run Tryz.prog W = .ok (.agg #[.int .i64 0]) W := by kernel_rfl
theorem zL (W : World) : (zeroValue 82).run Tryz.prog W = .ok (.agg #[.slice none 0 0]) W := by kernel_rfl
theorem zQ (W : World) : (zeroValue 89).run Tryz.prog W = .ok (.agg #[.slice none 0 0]) W := by kernel_rfl
set_option maxRecDepth 100000 in
theorem alone1 (n : Int) (w : World) : Calls Tryz.prog 168 #[.iface 36 (.agg #[.int .i64 n])] w fun e w' => e = .returned (.bool (decide (-1152921504606846976 ≤ n) && decide (n ≤ 1152921504606846975))) ∧ Only (fun _ => False) w w' := by
 have hi := va_hit 36 24 _ Tryz.underlying36 (by intro m h; cases h)
 have O0 : Hid (Only (fun _ => False) w w) := Only.refl _ _
 by_cases h1 : (-1152921504606846976 : Int) ≤ n
 ·rw [decide_eq_true h1]
  go_enter Tryz.func168, Tryz.ntmps168
  go_wp2
  all_goals
   go_ret
   refine ⟨by simp, ?_⟩
   repeat (first | exact O0.out | refine Only.alloc ?_ _)
 ·rw [decide_eq_false h1]
  go_enter Tryz.func168, Tryz.ntmps168
  go_wp2
  all_goals
   go_ret
   refine ⟨by simp, ?_⟩
   repeat (first | exact O0.out | refine Only.alloc ?_ _)
set_option maxRecDepth 100000 in
theorem alone2 (s : ByteArray) (hs : s.size ≤ 140737488355328) (w : World) (hT : Tb w) : Calls Tryz.prog 168 #[.iface 79 (.agg #[.string s])] w fun e w' => e = .returned (.bool (decide (s.size ≤ 4096) && vlB s)) ∧ Only (fun _ => False) w w' := by
 have mi := va_miss 79 36 24 _ Tryz.underlying36 (by intro m h; cases h) (by decide) _ zI
 have hi := va_hit 79 24 _ Tryz.underlying79 (by intro m h; cases h)
 have O0 : Hid (Only (fun _ => False) w w) := Only.refl _ _
 have HV : Hid (∀ w1, Only (fun _ => False) w w1 → Calls Tryz.prog 171 #[.string s] w1 fun e w' => e = .returned (.bool (vlB s)) ∧ Only (fun _ => False) w1 w') := fun w1 o => valid_any s (by omega) w1 (hT.frame o)
 obtain ⟨b, hb⟩ : ∃ b, b = vlB s := ⟨_, rfl⟩
 rw [← hb] at HV ⊢
 clear hT hb
 by_cases h4 : s.size ≤ 4096
 ·have i4 : (s.size : Int) ≤ 4096 := by omega
  rw [decide_eq_true h4]
  clear h4
  go_enter Tryz.func168, Tryz.ntmps168
  go_wp2_with fail
  refine (show Calls Tryz.prog 171 _ _ _ from HV.out _ (by repeat' first | exact O0.out | apply Only.alloc)).mono ?_
  rintro e w1 ⟨rfl, o1⟩
  have O1 : Hid (Only (fun _ => False) w w1) := Only.trans (show Only (fun _ => False) w _ by repeat' first | exact (Only.refl _ _) | apply Only.alloc) o1 (fun _ _ g => g)
  clear HV o1
  go_wp2
  go_ret
  exact ⟨by simp, O1.out⟩
 ·have i4 : ¬ (s.size : Int) ≤ 4096 := by omega
  rw [decide_eq_false h4]
  clear h4 HV
  go_enter Tryz.func168, Tryz.ntmps168
  go_wp2
  go_ret
  refine ⟨by simp, ?_⟩
  repeat (first | exact O0.out | refine Only.alloc ?_ _)
set_option maxRecDepth 100000 in
theorem alone6 (n : Int) (w : World) : Calls Tryz.prog 168 #[.iface 93 (.agg #[.int .i64 n])] w fun e w' => e = .returned (.bool (decide (1 ≤ n) && decide (n ≤ 1048576))) ∧ Only (fun _ => False) w w' := by
 have mi := va_miss 93 36 24 _ Tryz.underlying36 (by intro m h; cases h) (by decide) _ zI
 have ms := va_miss 93 79 24 _ Tryz.underlying79 (by intro m h; cases h) (by decide) _ zS
 have hi := va_hit 93 24 _ Tryz.underlying93 (by intro m h; cases h)
 have O0 : Hid (Only (fun _ => False) w w) := Only.refl _ _
 by_cases h1 : (1 : Int) ≤ n
 ·rw [decide_eq_true h1]
  go_enter Tryz.func168, Tryz.ntmps168
  go_wp2
  all_goals
   go_ret
   refine ⟨by simp, ?_⟩
   repeat (first | exact O0.out | refine Only.alloc ?_ _)
 ·rw [decide_eq_false h1]
  go_enter Tryz.func168, Tryz.ntmps168
  go_wp2
  all_goals
   go_ret
   refine ⟨by simp, ?_⟩
   repeat (first | exact O0.out | refine Only.alloc ?_ _)
set_option maxRecDepth 100000 in
theorem alone3 (b : Bool) (w : World) : Calls Tryz.prog 168 #[.iface 137 (.agg #[.bool b])] w fun e w' => e = .returned (.bool true) ∧ Only (fun _ => False) w w' := by
 have mi := va_miss 137 36 24 _ Tryz.underlying36 (by intro m h; cases h) (by decide) _ zI
 have ms := va_miss 137 79 24 _ Tryz.underlying79 (by intro m h; cases h) (by decide) _ zS
 have mb := va_miss 137 93 24 _ Tryz.underlying93 (by intro m h; cases h) (by decide) _ zB
 have hi := va_hit 137 24 _ Tryz.underlying137 (by intro m h; cases h)
 have O0 : Hid (Only (fun _ => False) w w) := Only.refl _ _
 go_enter Tryz.func168, Tryz.ntmps168
 go_wp2
 all_goals
  go_ret
  refine ⟨rfl, ?_⟩
  repeat (first | exact O0.out | refine Only.alloc ?_ _)
theorem alone_any {S : Nat → Prop} {d : Nat} {t : Vt} {v : Value} {w : World} (h : TiAt w S d false t v) (hk : ¬ (t.k = 4 ∨ t.k = 5)) (hs : t.s.size ≤ 140737488355328) : ∀ w1, Tb w1 → Calls Tryz.prog 168 #[v] w1 fun e w' => e = .returned (.bool (alB t)) ∧ Only (fun _ => False) w1 w' := by
 intro w1 hT
 obtain ⟨k, n, s, l⟩ := t
 cases d with
 | zero => exact h.elim
 | succ d =>
   rcases h with ⟨e, _, rfl⟩ | ⟨e, _, rfl⟩ | ⟨e, _, rfl⟩ | ⟨e, _, rfl⟩ | ⟨e, _, rfl⟩ | ⟨e, _⟩
   ·simp only at e
    subst e
    exact alone1 n w1
   ·simp only at e
    subst e
    exact alone2 s hs w1 hT
   ·simp only at e
    subst e
    exact alone3 _ w1
   ·simp only at e
    subst e
    exact alone6 n w1
   ·simp only at e
    subst e
    exact alone_bad _ bad_nil w1
   ·exact absurd e hk
end Go.Proofs.YtbbeoobihdldcaaGreatDoor
namespace Go.Proofs.YtbbeoobihdldcaaGreatDoor
open Go.RowKit Go.Lib
set_option linter.unusedSimpArgs false
set_option linter.unusedVariables false
def Mg (M : Nat) : Prop := 3 ≠ M ∧ 0 ≠ M ∧ 1 ≠ M
def MsC (d : Nat) (i : Bool) (F : Nat) : Prop := ∀ (t : Vt) (v : Value) (w : World) (S : Nat → Prop) (M k o : Nat) (dd : Int), TiAt w S d i t v → (∀ b, S b → b ≠ M) → (∃ e, SmT e t) → VmB w M k dd → k ≤ 1024 → (o : Int) ≤ dd → dd ≤ 1000 → o ≤ 32 → Tb w → Mg M →
 Calls Tryz.prog F #[.pointer (some ⟨M, 0, none⟩), v, .int .i64 (o : Int)] w fun e w' => e = .returned (.bool (msB d i t k o)) ∧ Hid (Only (fun b => b = M) w w' ∧ (msB d i t k o = true → ∃ dd' : Int, VmB w' M ((k + sz d i t : Nat) : Int) dd' ∧ dd' = max dd ((o + dp d i t : Nat) : Int) ∧ dd' ≤ 1000))
def EvC (d : Nat) (i : Bool) (F Fm : Nat) : Prop := ∀ (l : List Vt) (ao : Option Addr) (cap : Nat) (w : World) (S : Nat → Prop) (M k o : Nat) (dd : Int), (∀ (j : Nat) (x : Vt), l[j]? = some x → ∃ g q u, ao = some ⟨g, q, none⟩ ∧ S g ∧ w.cell? ⟨g, q + j, none⟩ = some u ∧ TiAt w S d i x u) → (∀ b, S b → b ≠ M) → (∀ x ∈ l, ∃ e, SmT e x) → l.length ≤ 2513169434900 → VmB w M k dd → k ≤ 1024 → (o : Int) ≤ dd → dd ≤ 1000 → o ≤ 32 → Tb w → Mg M →
 Calls Tryz.prog F #[.slice ao l.length cap, .func (.func Fm) #[.pointer (some ⟨M, 0, none⟩)] #[], .int .i64 (o : Int)] w fun e w' => e = .returned (.bool (evB d i l k o)) ∧ Hid (Only (fun b => b = M) w w' ∧ (evB d i l k o = true → ∃ dd' : Int, VmB w' M ((k + (l.map (sz d i)).sum : Nat) : Int) dd' ∧ dd' = max dd ((o + (l.map (dp d i)).foldl max 0 : Nat) : Int) ∧ dd' ≤ 1000))
set_option maxRecDepth 100000 in
set_option maxHeartbeats 4000000 in
theorem ev_values (d : Nat) (H : MsC d false 153) : EvC d false 165 153 := by
 intro l ao cap w S M k o dd hl hM hsm hlen hv hk hd1 hd2 ho hT hg
 have HE : Hid (∀ (j : Nat) (x : Vt), l[j]? = some x → ∃ g q u, ao = some ⟨g, q, none⟩ ∧ w.cell? ⟨g, q + j, none⟩ = some u ∧ g ≠ M ∧ ∀ (k1 : Nat) (dd1 : Int) w1, Only (fun b => b = M) w w1 → VmB w1 M k1 dd1 → k1 ≤ 1024 → (o : Int) ≤ dd1 → dd1 ≤ 1000 → Calls Tryz.prog 153 #[.pointer (some ⟨M, 0, none⟩), u, .int .i64 (o : Int)] w1 fun e w' => e = .returned (.bool (msB d false x k1 o)) ∧ Hid (Only (fun b => b = M) w1 w' ∧ (msB d false x k1 o = true → ∃ dd' : Int, VmB w' M ((k1 + sz d false x : Nat) : Int) dd' ∧ dd' = max dd1 ((o + dp d false x : Nat) : Int) ∧ dd' ≤ 1000))) := by
  intro j x hx
  obtain ⟨g, q, u, p1, p2, p3, p4⟩ := hl j x hx
  refine ⟨g, q, u, p1, p3, hM g p2, fun k1 dd1 w1 o1 hv1 hk1 h1 h2 => ?_⟩
  exact H x u w1 S M k1 o dd1 (p4.only o1 (fun b hb => hM b hb)) hM (hsm x (List.mem_of_getElem? hx)) hv1 hk1 h1 h2 ho (hT.keep o1 hg.1 hg.2.1 hg.2.2) hg
 obtain ⟨N, hN⟩ : ∃ N, N = l.length := ⟨_, rfl⟩
 have HN : Hid (N = l.length ∧ N ≤ 2513169434900) := ⟨hN, by omega⟩
 have HV : Hid (VmB w M k dd ∧ (o : Int) ≤ dd ∧ dd ≤ 1000 ∧ k ≤ 1024) := ⟨hv, hd1, hd2, hk⟩
 obtain ⟨Z, hZ⟩ : ∃ Z, Z = evB d false l k o := ⟨_, rfl⟩
 have HZ : Hid (Z = evB d false l k o) := hZ
 rw [← hN, ← hZ]
 clear hl hM hsm hlen hv hk hd1 hd2 ho hT hg hN hZ H
 go_enter Tryz.func165, Tryz.ntmps165
 go_wp2
 go_loopw [11] (fun r wr => ∃ j : Nat, r = .int .i64 (j : Int) ∧ j ≤ N ∧ Hid (Z = evB d false (l.drop j) (k + ((l.take j).map (sz d false)).sum) o ∧ k + ((l.take j).map (sz d false)).sum ≤ 1024 ∧ Only (fun b => b = M) w wr ∧ ∃ dd' : Int, VmB wr M ((k + ((l.take j).map (sz d false)).sum : Nat) : Int) dd' ∧ dd' = max dd ((o + ((l.take j).map (dp d false)).foldl max 0 : Nat) : Int) ∧ dd' ≤ 1000)) (fun r _ => N - vuOf r)
 case atStart => exact ⟨0, rfl, Nat.zero_le _, by simpa using HZ.out, by simpa using HV.out.2.2.2, Only.refl _ _, dd, by simpa using HV.out.1, by have := HV.out.2.1; simp only [List.take_zero, List.map_nil, List.foldl_nil]; omega, HV.out.2.2.1⟩
 case round =>
  obtain ⟨j, rfl, hj, HI⟩ := hrel
  obtain ⟨w1, hw1⟩ : ∃ w1, w1 = wr := ⟨_, rfl⟩
  rw [← hw1] at HI ⊢
  clear hw1
  have hNl := HN.out.1
  by_cases hjN : j < N
  ·obtain ⟨x, hx⟩ : ∃ x, l[j]? = some x := ⟨l[j]'(by omega), List.getElem?_eq_getElem (by omega)⟩
   obtain ⟨g, q, u, rfl, c0, hgM, hcall⟩ := HE.out j x hx
   obtain ⟨hz, hk1, o1, dd1, hv1, h1, h2⟩ := HI.out
   have c1 := o1.cell c0 hgM
   have HC : Hid _ := hcall _ _ w1 o1 hv1 hk1 (by rw [h1]; have := HV.out.2.1; omega) h2
   obtain ⟨k1, hk1e⟩ : ∃ k1, k1 = k + ((l.take j).map (sz d false)).sum := ⟨_, rfl⟩
   rw [← hk1e] at HC hz hk1
   have hdr : l.drop j = x :: l.drop (j + 1) := by
    have hlt : j < l.length := by omega
    rw [List.drop_eq_getElem_cons hlt]
    have := List.getElem?_eq_getElem hlt
    rw [hx] at this
    injection this with this
    rw [← this]
   have hst : k + ((l.take (j + 1)).map (sz d false)).sum = k1 + sz d false x := by
    rw [List.take_add_one, hx, hk1e]
    simp
    omega
   have hdx : ∀ q : Int, q = max dd1 ((o + dp d false x : Nat) : Int) → q = max dd ((o + ((l.take (j + 1)).map (dp d false)).foldl max 0 : Nat) : Int) := fun q hq => by
    rw [List.take_add_one, hx]
    simp only [Option.toList_some, List.map_append, List.map_cons, List.map_nil, List.foldl_append, List.foldl_cons, List.foldl_nil]
    rw [hq, h1]
    omega
   have HDX : Hid (∀ q : Int, q = max dd1 ((o + dp d false x : Nat) : Int) → q = max dd ((o + ((l.take (j + 1)).map (dp d false)).foldl max 0 : Nat) : Int)) := hdx
   clear hdx
   have HX : Hid (j < N ∧ Z = evB d false (x :: l.drop (j + 1)) k1 o ∧ k + ((l.take (j + 1)).map (sz d false)).sum = k1 + sz d false x ∧ Only (fun b => b = M) w w1) := ⟨hjN, by rw [← hdr]; exact hz, hst, o1⟩
   have i1 : (j : Int) < (N : Int) := by omega
   have i0 : (0 : Int) ≤ (j : Int) := by omega
   have i4 : j ≤ 2513169434900 := by have := HN.out.2; omega
   obtain ⟨b, hb⟩ : ∃ b, b = msB d false x k1 o := ⟨_, rfl⟩
   have HB : Hid (b = msB d false x k1 o) := hb
   rw [← hb] at HC
   clear hz hk1 o1 hv1 h1 h2 hk1e hdr hst hcall c0 hgM hx hNl hjN hj HI hb
   go_wp2_with fail
   refine (show Calls Tryz.prog 153 _ _ _ from HC.out).mono ?_
   rintro e w2 ⟨rfl, G2⟩
   clear HC c1
   cases b with
   | false =>
     have hZf : Z = false := by
      rw [HX.out.2.1]
      unfold evB
      rw [← HB.out]
      rfl
     have HF : Hid (Z = false ∧ Only (fun b => b = M) w w2) := ⟨hZf, HX.out.2.2.2.trans G2.out.1 (fun _ _ g => g)⟩
     clear G2 hZf
     go_wp2
     go_ret
     exact ⟨by rw [HF.out.1]; rfl, HF.out.2, fun h => by rw [HF.out.1] at h; cases h⟩
   | true =>
     have HF : Hid (Z = evB d false (l.drop (j + 1)) (k + ((l.take (j + 1)).map (sz d false)).sum) o ∧ k + ((l.take (j + 1)).map (sz d false)).sum ≤ 1024 ∧ Only (fun b => b = M) w w2 ∧ ∃ dd' : Int, VmB w2 M ((k + ((l.take (j + 1)).map (sz d false)).sum : Nat) : Int) dd' ∧ dd' = max dd ((o + ((l.take (j + 1)).map (dp d false)).foldl max 0 : Nat) : Int) ∧ dd' ≤ 1000) := by
      rw [HX.out.2.2.1]
      have hm := HB.out.symm
      refine ⟨?_, ?_, HX.out.2.2.2.trans G2.out.1 (fun _ _ g => g), (by obtain ⟨q, q1, q2, q3⟩ := G2.out.2 rfl; exact ⟨q, q1, HDX.out q q2, q3⟩)⟩
      ·have := HX.out.2.1
       unfold evB at this
       rw [hm] at this
       simpa using this
      ·unfold msB at hm
       simp only [Bool.and_eq_true, decide_eq_true_eq] at hm
       exact hm.1.2
     have HJ : Hid (j < N) := HX.out.1
     clear G2 HX HB
     go_wp2
     go_roundw
     case rel => exact ⟨j + 1, by go_num, by have := HJ.out; omega, HF⟩
     case measure => simp only [vuOf]; have := HJ.out; omega
  ·obtain rfl : j = N := by omega
   have i1 : ¬ (j : Int) < (j : Int) := by omega
   have HF : Hid (Z = true ∧ Only (fun b => b = M) w w1 ∧ ∃ dd' : Int, VmB w1 M ((k + (l.map (sz d false)).sum : Nat) : Int) dd' ∧ dd' = max dd ((o + (l.map (dp d false)).foldl max 0 : Nat) : Int) ∧ dd' ≤ 1000) := by
    obtain ⟨hz, _, o1, hh⟩ := HI.out
    rw [hNl, List.take_length] at hh
    rw [hNl, List.drop_length] at hz
    exact ⟨hz, o1, hh⟩
   clear HI hNl hjN hj
   go_wp2
   go_ret
   exact ⟨by rw [HF.out.1]; rfl, HF.out.2.1, fun _ => HF.out.2.2⟩
set_option maxRecDepth 100000 in
set_option maxHeartbeats 4000000 in
theorem ev_items (d : Nat) (H : MsC d true 167) : EvC d true 166 167 := by
 intro l ao cap w S M k o dd hl hM hsm hlen hv hk hd1 hd2 ho hT hg
 have HE : Hid (∀ (j : Nat) (x : Vt), l[j]? = some x → ∃ g q u, ao = some ⟨g, q, none⟩ ∧ w.cell? ⟨g, q + j, none⟩ = some u ∧ g ≠ M ∧ ∀ (k1 : Nat) (dd1 : Int) w1, Only (fun b => b = M) w w1 → VmB w1 M k1 dd1 → k1 ≤ 1024 → (o : Int) ≤ dd1 → dd1 ≤ 1000 → Calls Tryz.prog 167 #[.pointer (some ⟨M, 0, none⟩), u, .int .i64 (o : Int)] w1 fun e w' => e = .returned (.bool (msB d true x k1 o)) ∧ Hid (Only (fun b => b = M) w1 w' ∧ (msB d true x k1 o = true → ∃ dd' : Int, VmB w' M ((k1 + sz d true x : Nat) : Int) dd' ∧ dd' = max dd1 ((o + dp d true x : Nat) : Int) ∧ dd' ≤ 1000))) := by
  intro j x hx
  obtain ⟨g, q, u, p1, p2, p3, p4⟩ := hl j x hx
  refine ⟨g, q, u, p1, p3, hM g p2, fun k1 dd1 w1 o1 hv1 hk1 h1 h2 => ?_⟩
  exact H x u w1 S M k1 o dd1 (p4.only o1 (fun b hb => hM b hb)) hM (hsm x (List.mem_of_getElem? hx)) hv1 hk1 h1 h2 ho (hT.keep o1 hg.1 hg.2.1 hg.2.2) hg
 obtain ⟨N, hN⟩ : ∃ N, N = l.length := ⟨_, rfl⟩
 have HN : Hid (N = l.length ∧ N ≤ 2513169434900) := ⟨hN, by omega⟩
 have HV : Hid (VmB w M k dd ∧ (o : Int) ≤ dd ∧ dd ≤ 1000 ∧ k ≤ 1024) := ⟨hv, hd1, hd2, hk⟩
 obtain ⟨Z, hZ⟩ : ∃ Z, Z = evB d true l k o := ⟨_, rfl⟩
 have HZ : Hid (Z = evB d true l k o) := hZ
 rw [← hN, ← hZ]
 clear hl hM hsm hlen hv hk hd1 hd2 ho hT hg hN hZ H
 go_enter Tryz.func166, Tryz.ntmps166
 go_wp2
 go_loopw [11] (fun r wr => ∃ j : Nat, r = .int .i64 (j : Int) ∧ j ≤ N ∧ Hid (Z = evB d true (l.drop j) (k + ((l.take j).map (sz d true)).sum) o ∧ k + ((l.take j).map (sz d true)).sum ≤ 1024 ∧ Only (fun b => b = M) w wr ∧ ∃ dd' : Int, VmB wr M ((k + ((l.take j).map (sz d true)).sum : Nat) : Int) dd' ∧ dd' = max dd ((o + ((l.take j).map (dp d true)).foldl max 0 : Nat) : Int) ∧ dd' ≤ 1000)) (fun r _ => N - vuOf r)
 case atStart => exact ⟨0, rfl, Nat.zero_le _, by simpa using HZ.out, by simpa using HV.out.2.2.2, Only.refl _ _, dd, by simpa using HV.out.1, by have := HV.out.2.1; simp only [List.take_zero, List.map_nil, List.foldl_nil]; omega, HV.out.2.2.1⟩
 case round =>
  obtain ⟨j, rfl, hj, HI⟩ := hrel
  obtain ⟨w1, hw1⟩ : ∃ w1, w1 = wr := ⟨_, rfl⟩
  rw [← hw1] at HI ⊢
  clear hw1
  have hNl := HN.out.1
  by_cases hjN : j < N
  ·obtain ⟨x, hx⟩ : ∃ x, l[j]? = some x := ⟨l[j]'(by omega), List.getElem?_eq_getElem (by omega)⟩
   obtain ⟨g, q, u, rfl, c0, hgM, hcall⟩ := HE.out j x hx
   obtain ⟨hz, hk1, o1, dd1, hv1, h1, h2⟩ := HI.out
   have c1 := o1.cell c0 hgM
   have HC : Hid _ := hcall _ _ w1 o1 hv1 hk1 (by rw [h1]; have := HV.out.2.1; omega) h2
   obtain ⟨k1, hk1e⟩ : ∃ k1, k1 = k + ((l.take j).map (sz d true)).sum := ⟨_, rfl⟩
   rw [← hk1e] at HC hz hk1
   have hdr : l.drop j = x :: l.drop (j + 1) := by
    have hlt : j < l.length := by omega
    rw [List.drop_eq_getElem_cons hlt]
    have := List.getElem?_eq_getElem hlt
    rw [hx] at this
    injection this with this
    rw [← this]
   have hst : k + ((l.take (j + 1)).map (sz d true)).sum = k1 + sz d true x := by
    rw [List.take_add_one, hx, hk1e]
    simp
    omega
   have hdx : ∀ q : Int, q = max dd1 ((o + dp d true x : Nat) : Int) → q = max dd ((o + ((l.take (j + 1)).map (dp d true)).foldl max 0 : Nat) : Int) := fun q hq => by
    rw [List.take_add_one, hx]
    simp only [Option.toList_some, List.map_append, List.map_cons, List.map_nil, List.foldl_append, List.foldl_cons, List.foldl_nil]
    rw [hq, h1]
    omega
   have HDX : Hid (∀ q : Int, q = max dd1 ((o + dp d true x : Nat) : Int) → q = max dd ((o + ((l.take (j + 1)).map (dp d true)).foldl max 0 : Nat) : Int)) := hdx
   clear hdx
   have HX : Hid (j < N ∧ Z = evB d true (x :: l.drop (j + 1)) k1 o ∧ k + ((l.take (j + 1)).map (sz d true)).sum = k1 + sz d true x ∧ Only (fun b => b = M) w w1) := ⟨hjN, by rw [← hdr]; exact hz, hst, o1⟩
   have i1 : (j : Int) < (N : Int) := by omega
   have i0 : (0 : Int) ≤ (j : Int) := by omega
   have i4 : j ≤ 2513169434900 := by have := HN.out.2; omega
   obtain ⟨b, hb⟩ : ∃ b, b = msB d true x k1 o := ⟨_, rfl⟩
   have HB : Hid (b = msB d true x k1 o) := hb
   rw [← hb] at HC
   clear hz hk1 o1 hv1 h1 h2 hk1e hdr hst hcall c0 hgM hx hNl hjN hj HI hb
   go_wp2_with fail
   refine (show Calls Tryz.prog 167 _ _ _ from HC.out).mono ?_
   rintro e w2 ⟨rfl, G2⟩
   clear HC c1
   cases b with
   | false =>
     have hZf : Z = false := by
      rw [HX.out.2.1]
      unfold evB
      rw [← HB.out]
      rfl
     have HF : Hid (Z = false ∧ Only (fun b => b = M) w w2) := ⟨hZf, HX.out.2.2.2.trans G2.out.1 (fun _ _ g => g)⟩
     clear G2 hZf
     go_wp2
     go_ret
     exact ⟨by rw [HF.out.1]; rfl, HF.out.2, fun h => by rw [HF.out.1] at h; cases h⟩
   | true =>
     have HF : Hid (Z = evB d true (l.drop (j + 1)) (k + ((l.take (j + 1)).map (sz d true)).sum) o ∧ k + ((l.take (j + 1)).map (sz d true)).sum ≤ 1024 ∧ Only (fun b => b = M) w w2 ∧ ∃ dd' : Int, VmB w2 M ((k + ((l.take (j + 1)).map (sz d true)).sum : Nat) : Int) dd' ∧ dd' = max dd ((o + ((l.take (j + 1)).map (dp d true)).foldl max 0 : Nat) : Int) ∧ dd' ≤ 1000) := by
      rw [HX.out.2.2.1]
      have hm := HB.out.symm
      refine ⟨?_, ?_, HX.out.2.2.2.trans G2.out.1 (fun _ _ g => g), (by obtain ⟨q, q1, q2, q3⟩ := G2.out.2 rfl; exact ⟨q, q1, HDX.out q q2, q3⟩)⟩
      ·have := HX.out.2.1
       unfold evB at this
       rw [hm] at this
       simpa using this
      ·unfold msB at hm
       simp only [Bool.and_eq_true, decide_eq_true_eq] at hm
       exact hm.1.2
     have HJ : Hid (j < N) := HX.out.1
     clear G2 HX HB
     go_wp2
     go_roundw
     case rel => exact ⟨j + 1, by go_num, by have := HJ.out; omega, HF⟩
     case measure => simp only [vuOf]; have := HJ.out; omega
  ·obtain rfl : j = N := by omega
   have i1 : ¬ (j : Int) < (j : Int) := by omega
   have HF : Hid (Z = true ∧ Only (fun b => b = M) w w1 ∧ ∃ dd' : Int, VmB w1 M ((k + (l.map (sz d true)).sum : Nat) : Int) dd' ∧ dd' = max dd ((o + (l.map (dp d true)).foldl max 0 : Nat) : Int) ∧ dd' ≤ 1000) := by
    obtain ⟨hz, _, o1, hh⟩ := HI.out
    rw [hNl, List.take_length] at hh
    rw [hNl, List.drop_length] at hz
    exact ⟨hz, o1, hh⟩
   clear HI hNl hjN hj
   go_wp2
   go_ret
   exact ⟨by rw [HF.out.1]; rfl, HF.out.2.1, fun _ => HF.out.2.2⟩
end Go.Proofs.YtbbeoobihdldcaaGreatDoor
namespace Go.Proofs.YtbbeoobihdldcaaGreatDoor
open Go.RowKit Go.Lib
set_option linter.unusedSimpArgs false
set_option linter.unusedVariables false
theorem VmB.keep {w w' : World} {M : Nat} {k d : Int} (h : VmB w M k d) (o : Only (fun _ => False) w w') : VmB w' M k d := (o.block M (Array.getElem?_eq_some_iff.1 h).1 (fun g => g)).trans h
def LqM (v : Value) : Prop := (∀ W : World, (Instr.typeAssert v 24 82 true).run Tryz.prog W = .ok (.tuple #[.agg #[.slice none 0 0], .bool false]) W) ∧ (∀ W : World, (Instr.typeAssert v 24 89 true).run Tryz.prog W = .ok (.tuple #[.agg #[.slice none 0 0], .bool false]) W)
theorem leaf_lq {S : Nat → Prop} {d : Nat} {t : Vt} {v : Value} {w : World} (h : TiAt w S (d + 1) false t v) (hk : ¬ (t.k = 4 ∨ t.k = 5)) : LqM v ∧ t.l = [] := by
 have m1 : ∀ T x, T ≠ 82 → T ≠ 89 → LqM (.iface T x) := fun T x h1 h2 => ⟨va_miss T 82 24 _ Tryz.underlying82 (by intro m h; cases h) h1 _ zL x, va_miss T 89 24 _ Tryz.underlying89 (by intro m h; cases h) h2 _ zQ x⟩
 rcases h with ⟨_, e, rfl⟩ | ⟨_, e, rfl⟩ | ⟨_, e, rfl⟩ | ⟨_, e, rfl⟩ | ⟨_, e, rfl⟩ | ⟨e, _⟩
 ·exact ⟨m1 _ _ (by decide) (by decide), e⟩
 ·exact ⟨m1 _ _ (by decide) (by decide), e⟩
 ·exact ⟨m1 _ _ (by decide) (by decide), e⟩
 ·exact ⟨m1 _ _ (by decide) (by decide), e⟩
 ·exact ⟨⟨bad_nil.l, bad_nil.q⟩, e⟩
 ·exact absurd e hk
theorem SmT.str {e : Nat} {t : Vt} (h : SmT e t) : t.s.size ≤ 140737488355328 := by
 cases e with
 | zero => exact h.elim
 | succ e => exact h.1
theorem SmT.len {e : Nat} {t : Vt} (h : SmT e t) : t.l.length ≤ 2513169434900 := by
 cases e with
 | zero => exact h.elim
 | succ e => exact h.2.1
theorem SmT.parts {e : Nat} {t : Vt} (h : SmT e t) : ∀ x ∈ t.l, ∃ e, SmT e x := by
 cases e with
 | zero => exact h.elim
 | succ e => exact fun x hx => ⟨e, h.2.2.2.2 x hx⟩
set_option maxRecDepth 100000 in
set_option maxHeartbeats 4000000 in
theorem mleaf (d : Nat) (t : Vt) (v : Value) (w : World) (S : Nat → Prop) (M k o : Nat) (dd : Int) (h : TiAt w S (d + 1) false t v) (hk4 : ¬ (t.k = 4 ∨ t.k = 5)) (hs : t.s.size ≤ 140737488355328) (hv : VmB w M k dd) (hk : k ≤ 1024) (hd1 : (o : Int) ≤ dd) (hd2 : dd ≤ 1000) (ho : o ≤ 32) (hT : Tb w) (hg : Mg M) :
  Calls Tryz.prog 153 #[.pointer (some ⟨M, 0, none⟩), v, .int .i64 (o : Int)] w fun e w' => e = .returned (.bool (msB (d + 1) false t k o)) ∧ Hid (Only (fun b => b = M) w w' ∧ (msB (d + 1) false t k o = true → ∃ dd' : Int, VmB w' M ((k + sz (d + 1) false t : Nat) : Int) dd' ∧ dd' = max dd ((o + dp (d + 1) false t : Nat) : Int) ∧ dd' ≤ 1000)) := by
 obtain ⟨⟨hl, hq⟩, hnil⟩ := leaf_lq h hk4
 have hsz : sz (d + 1) false t = 1 := by unfold sz; rw [hnil]; rfl
 have hdp : dp (d + 1) false t = 0 := by unfold dp; rw [if_neg hk4]
 have hok : okV (d + 1) false t = alB t := by unfold okV; rw [if_neg hk4]
 have hms : msB (d + 1) false t k o = (alB t && decide (k + 1 ≤ 1024)) := by
  unfold msB
  rw [hok, hsz, hdp, decide_eq_true (show o + 0 ≤ 32 by omega), Bool.and_true]
 have HM : Hid _ := vcount_all M k dd w hv (by omega) (by omega)
 have HA : Hid (∀ w1, Only (fun b => b = M) w w1 → Calls Tryz.prog 168 #[v] w1 fun e w' => e = .returned (.bool (alB t)) ∧ Only (fun _ => False) w1 w') := fun w1 o1 => alone_any h hk4 hs w1 (hT.keep o1 hg.1 hg.2.1 hg.2.2)
 have HD : Hid (dd = max dd ((o + 0 : Nat) : Int) ∧ dd ≤ 1000) := ⟨by omega, hd2⟩
 rw [hms, hsz, hdp]
 obtain ⟨a, ha⟩ : ∃ a, a = alB t := ⟨_, rfl⟩
 rw [← ha] at HA ⊢
 clear h hk4 hs hv hd1 hd2 ho hT hg hsz hdp hok hms hnil ha
 by_cases h1 : k + 1 ≤ 1024
 ·have e1 : decide ((k : Int) + 1 ≤ 1024) = true := decide_eq_true (by omega)
  rw [e1] at HM
  rw [decide_eq_true h1]
  clear e1
  go_enter Tryz.func153, Tryz.ntmps153
  go_wp2_with fail
  refine (show Calls Tryz.prog 163 _ _ _ from HM.out).mono ?_
  rintro e w1 ⟨rfl, o1, m1⟩
  have O1 : Hid (Only (fun b => b = M) w w1 ∧ VmB w1 M ((k : Int) + 1) dd) := ⟨o1, m1⟩
  clear HM o1 m1
  go_wp2_with fail
  refine (show Calls Tryz.prog 168 _ _ _ from HA.out _ (by repeat' first | exact O1.out.1 | apply Only.alloc)).mono ?_
  rintro e w2 ⟨rfl, o2⟩
  have o3 : Only (fun _ => False) w1 w2 := Only.trans (show Only (fun _ => False) w1 _ by repeat' first | exact (Only.refl _ _) | apply Only.alloc) o2 (fun _ _ g => g)
  have HF : Hid (Only (fun b => b = M) w w2 ∧ VmB w2 M ((k + 1 : Nat) : Int) dd) := ⟨O1.out.1.trans (o3.mono (bs' := fun b => b = M) (fun _ _ g => g.elim)) (fun _ _ g => g), by have := O1.out.2.keep o3; simpa using this⟩
  clear HA o2 o3 O1
  go_wp2
  go_ret
  exact ⟨by simp, HF.out.1, fun _ => ⟨dd, HF.out.2, HD.out.1, HD.out.2⟩⟩
 ·have e1 : decide ((k : Int) + 1 ≤ 1024) = false := decide_eq_false (by omega)
  rw [e1] at HM
  rw [decide_eq_false h1]
  clear e1 HA
  go_enter Tryz.func153, Tryz.ntmps153
  go_wp2_with fail
  refine (show Calls Tryz.prog 163 _ _ _ from HM.out).mono ?_
  rintro e w1 ⟨rfl, o1, m1⟩
  have O1 : Hid (Only (fun b => b = M) w w1) := o1
  clear HM o1 m1
  go_wp2
  go_ret
  exact ⟨by simp, O1.out, fun h => by simp at h⟩
end Go.Proofs.YtbbeoobihdldcaaGreatDoor
