/- A call of a name: is there such a name? parse.Text of it, and value's callable. The measure of values: the parts that ValuePointers reaches. The numbers by which the library's contract on utf8.ValidString stands over this program. -/
import Derived.Test.YthlloenonjagbaaGreatDoorGah
import Derived.Test.YthlloenonjagbaaGreatDoorGad
import Derived.Shelf.Unicode.ValidAny
import Derived.Test.YthlloenonjagbaaGreatDoorProg
namespace Go.Proofs.YthlloenonjagbaaGreatDoor
open Go.RowKit Go.Lib
set_option linter.unusedSimpArgs false
set_option linter.unusedVariables false
/-- the reserved words -/
def resB (s : ByteArray) : Bool := s.toList == [58] || s.toList == [59] || s.toList == [40] || s.toList == [45, 45] || s.toList == [41] || s.toList == [91] || s.toList == [93] || s.toList == [123] || s.toList == [125] || s.toList == [116] || s.toList == [102]
set_option maxRecDepth 100000 in
theorem reserved_any (s : ByteArray) (w : World) :
    Calls Tryz.prog 125 #[.string s] w fun x w' => x = .returned (.bool (resB s)) ∧ w' = w := by
  go_enter Tryz.func125, Tryz.ntmps125
  go_wp2
  all_goals
    go_ret
    refine ⟨?_, rfl⟩
    first
      | (exfalso; simp_all; done)
      | (unfold resB; simp only [*, Bool.or_true, Bool.or_false, Bool.true_or, Bool.false_or]; done)
      | (unfold resB; simp_all; done)
/-- may it be called? -/
def clB (s : ByteArray) : Bool := nameB s && !(resB s)
set_option maxRecDepth 100000 in
theorem pcallable_any (s : ByteArray) (w : World) (h : Nog w) : Calls Tryz.prog 117 #[.string s] w fun e w' => e = .returned (.bool (clB s)) ∧ Only (fun _ => False) w w' := by
  have HN : Hid _ := name_any s w h
  have HR := reserved_any s
  unfold clB
  obtain ⟨b, hb⟩ : ∃ b, b = nameB s := ⟨_, rfl⟩
  obtain ⟨r, hr⟩ : ∃ r, r = resB s := ⟨_, rfl⟩
  rw [← hb] at HN ⊢
  rw [← hr] at HR ⊢
  clear hb hr h
  go_enter Tryz.func117, Tryz.ntmps117
  go_wp2_with fail
  refine (show Calls Tryz.prog 124 _ _ _ from HN.out).mono ?_
  rintro e w1 ⟨rfl, o1⟩
  have O1 : Hid (Only (fun _ => False) w w1) := o1
  clear HN o1
  cases b with
  | false =>
    go_wp2
    go_ret
    exact ⟨rfl, O1.out⟩
  | true =>
    go_wp2_with (go_at_call 125; refine (HR _).mono ?_; rintro e w' ⟨rfl, hq⟩; rw [hq]; clear hq)
    go_ret
    exact ⟨by simp, O1.out⟩
theorem nog_keep {w w' : World} {M : Nat} (h : Nog w) (o : Only (fun b => b = M) w w') (hg : 4 ≠ M) : Nog w' := ⟨o.cell h.1 hg, o.cell h.2.1 hg, o.cell h.2.2 hg⟩
theorem nog_lt {w : World} (h : Nog w) : 4 < w.heap.size := World.block_lt_of_cell? w _ h.1
theorem wid4 (s : ByteArray) (pos : Nat) : (Utf8.decode s pos).2 ≤ 4 := by
  unfold Utf8.decode
  simp
  repeat' split
  all_goals simp
theorem crs_long {s : ByteArray} : ∀ (b pos : Nat), s.size ≤ pos + b → s.size - pos ≤ 4 * (crs s b pos).length
  | 0, pos, h => by omega
  | b + 1, pos, h => by
    by_cases hp : pos < s.size
    · have h1 := crs_long (s := s) b (pos + (Utf8.decode s pos).2) (by have := wid_pos s pos hp; omega)
      have h2 := wid4 s pos
      have e : crs s (b + 1) pos = (pos, (Utf8.decode s pos).1) :: crs s b (pos + (Utf8.decode s pos).2) := by simp [crs, hp]
      rw [e, List.length_cons]
      omega
    · omega
theorem nmL_short : ∀ (l : List Nat) (k : Nat), k ≤ 32 → nmL l k = true → k + l.length ≤ 32 ∧ 0 < k + l.length
  | [], k, hk, h => by simp only [nmL, decide_eq_true_eq] at h; simp; omega
  | c :: l, k, hk, h => by
    simp only [nmL] at h
    split at h
    · cases h
    · rename_i hn
      have := nmL_short l (k + 1) (by omega) h
      simp only [List.length_cons]
      omega
theorem name_size {s : ByteArray} (h : nameB s = true) : s.size ≤ 128 ∧ 0 < s.size := by
  unfold nameB nmdB at h
  simp only [Bool.and_eq_true] at h
  have h2 := h.2
  split at h2
  · cases h2
  · split at h2
    · cases h2
    · have h3 := nmL_short _ 0 (by omega) h2
      have h4 : (rns s).length = (crs s s.size 0).length := by simp [rns, chs]
      have h5 := crs_long (s := s) s.size 0 (by omega)
      refine ⟨by omega, ?_⟩
      rcases Nat.eq_zero_or_pos s.size with h0 | h0
      · have h6 : (crs s s.size 0).length = 0 := by rw [crs_end (by omega)]; rfl
        omega
      · exact h0
def cV (s : ByteArray) : Value := .iface 111 (.agg #[.string s])
theorem vzero_Push (W : World) : (zeroValue 108).run Tryz.prog W = .ok (.agg #[.nilIface]) W := by kernel_rfl
set_option maxRecDepth 100000 in
theorem pitemC (s : ByteArray) (M : Nat) (w : World) (h : MlB w M 1024) (hN : Nog w) (hg : 4 ≠ M) : Calls Tryz.prog 111 #[.pointer (some ⟨M, 0, none⟩), cV s, .int .i64 32] w fun e w' => e = .returned (.bool (clB s)) ∧ Only (fun b => b = M) w w' := by
  have mP := va_miss 111 108 94 _ Tryz.underlying108 (by intro m h; cases h) (by decide) _ vzero_Push
  have hC := va_hit 111 94 _ Tryz.underlying111 (by intro m h; cases h)
  have HM : Hid (∀ w1, Only (fun _ => False) w w1 → Calls Tryz.prog 116 #[.pointer (some ⟨M, 0, none⟩)] w1 fun e w' => e = .returned (.bool true) ∧ Only (fun b => b = M) w1 w' ∧ MlB w' M (1024 - 1)) := fun w1 o => pmore_any M 1024 w1 ((o.block M (Array.getElem?_eq_some_iff.1 h).1 (fun g => g)).trans h) (by omega) (by omega)
  have HC : Hid (∀ w1, Only (fun b => b = M) w w1 → Calls Tryz.prog 117 #[.string s] w1 fun e w' => e = .returned (.bool (clB s)) ∧ Only (fun _ => False) w1 w') := fun w1 o => pcallable_any s w1 (nog_keep hN o hg)
  have O0 : Hid (Only (fun _ => False) w w) := Only.refl _ _
  have HL : Hid (M < w.heap.size) := (Array.getElem?_eq_some_iff.1 h).1
  obtain ⟨b, hb⟩ : ∃ b, b = clB s := ⟨_, rfl⟩
  rw [← hb] at HC ⊢
  clear h hN hb hg
  unfold cV
  go_enter Tryz.func111, Tryz.ntmps111
  go_wp2_with fail
  refine (show Calls Tryz.prog 116 _ _ _ from HM.out _ (by repeat' first | exact O0.out | apply Only.alloc)).mono ?_
  rintro e w1 ⟨rfl, o1, _⟩
  have O1 : Hid (Only (fun b => b = M) w w1) := Only.trans (show Only (fun b => b = M) w _ by repeat' first | exact (Only.refl _ _) | apply Only.alloc) o1 (fun _ _ g => g)
  have x0 : w1.cell? ⟨w.heap.size, 0, none⟩ = some (.string s) := o1.cell (a := ⟨w.heap.size, 0, none⟩) (by simp [go_sem]) (by have := HL.out; simp only; omega)
  clear HM o1
  have HC1 : Hid _ := HC.out w1 O1.out
  clear HC
  go_wp2_with fail
  refine (show Calls Tryz.prog 117 _ _ _ from HC1.out).mono ?_
  rintro e w2 ⟨rfl, o2⟩
  have O2 : Hid (Only (fun b => b = M) w w2) := O1.out.trans (o2.mono (bs' := fun b => b = M) (fun _ _ g => g.elim)) (fun _ _ g => g)
  clear HC1 o2 O1
  go_wp2
  go_ret
  exact ⟨rfl, O2.out⟩
set_option maxRecDepth 100000 in
theorem psoundC (s : ByteArray) (w : World) (hN : Nog w) : Calls Tryz.prog 106 #[cV s] w fun e w' => e = .returned (.bool (clB s)) ∧ Only (fun _ => False) w w' := by
  have HI : Hid (Calls Tryz.prog 111 #[.pointer (some ⟨w.heap.size, 0, none⟩), cV s, .int .i64 32] (w.alloc (.cells #[.int .i64 1024] 210)) fun e w' => e = .returned (.bool (clB s)) ∧ Only (fun b => b = w.heap.size) (w.alloc (.cells #[.int .i64 1024] 210)) w') := pitemC s w.heap.size _ (va_at _ _ _ rfl) (hN.frame ((Only.refl _ w).alloc _)) (Nat.ne_of_lt (nog_lt hN))
  clear hN
  go_enter Tryz.func106, Tryz.ntmps106
  go_wp2_with fail
  refine (show Calls Tryz.prog 111 _ _ _ from HI.out).mono ?_
  rintro e w1 ⟨rfl, o1⟩
  have O1 : Hid (Only (fun _ => False) w w1) := ((Only.refl (fun _ => False) w).alloc _).trans o1 (fun k hk e => by omega)
  clear HI o1
  go_wp2
  go_ret
  exact ⟨rfl, O1.out⟩
set_option maxRecDepth 100000 in
theorem psoundsC (s : ByteArray) (w : World) (g : Nat) (hg : w.cell? ⟨g, 0, none⟩ = some (cV s)) (hN : Nog w) : Calls Tryz.prog 95 #[.slice (some ⟨g, 0, none⟩) 1 1] w fun e w' => e = .returned (.bool (clB s)) ∧ Only (fun _ => False) w w' := by
  have HI : Hid (Calls Tryz.prog 106 #[cV s] w fun e w' => e = .returned (.bool (clB s)) ∧ Only (fun _ => False) w w') := psoundC s w hN
  unfold cV at hg HI
  obtain ⟨b, hb⟩ : ∃ b, b = clB s := ⟨_, rfl⟩
  rw [← hb] at HI ⊢
  clear hN hb
  go_enter Tryz.func95, Tryz.ntmps95
  go_wp2
  go_loopw [7] (fun r wr => ∃ i : Int, r = .int .i64 i ∧ ((i = 0 ∧ wr = w) ∨ (i = 1 ∧ b = true ∧ Hid (Only (fun _ => False) w wr)))) (fun r _ => 1 - uOf r)
  case atStart => exact ⟨0, rfl, .inl ⟨rfl, rfl⟩⟩
  case round =>
    obtain ⟨i, rfl, ⟨rfl, hw⟩ | ⟨rfl, hb, HO⟩⟩ := hrel
    · rw [hw]
      clear hw
      go_wp2_with fail
      refine (show Calls Tryz.prog 106 _ _ _ from HI.out).mono ?_
      rintro e w2 ⟨rfl, o2⟩
      have O2 : Hid (Only (fun _ => False) w w2) := o2
      clear HI o2 hg
      cases b with
      | false =>
        go_wp2
        go_ret
        exact ⟨rfl, O2.out⟩
      | true =>
        go_wp2
        go_roundw
        case rel => exact ⟨1, rfl, .inr ⟨rfl, trivial, O2⟩⟩
        case measure => simp [uOf]
    · subst hb
      clear HI hg
      go_wp2
      go_ret
      exact ⟨rfl, HO.out⟩
set_option maxRecDepth 100000 in
theorem witemC (s : ByteArray) (hs : s.size ≤ 1000000) (B b : Nat) (w : World) (h : WrU B b [] false w) (hBw : B ≤ w.heap.size) : Calls Tryz.prog 107 #[.pointer (some ⟨b, 0, none⟩), cV s] w fun e w' => e = .returned (.tuple #[]) ∧ Hid (WrU B b (strCells s) true w' ∧ Only (fun k => B ≤ k) w w') := by
  have mP := va_miss 111 108 94 _ Tryz.underlying108 (by intro m h; cases h) (by decide) _ vzero_Push
  have hC := va_hit 111 94 _ Tryz.underlying111 (by intro m h; cases h)
  have HW : Hid (∀ w1, Only (fun _ => False) w w1 → Calls Tryz.prog 113 #[.pointer (some ⟨b, 0, none⟩), .string s] w1 fun e w' => e = .returned (.tuple #[]) ∧ Hid (WrU B b ([] ++ strCells s) true w' ∧ Only (fun k => B ≤ k) w1 w')) := fun w1 o => wword_first B b [] s w1 (h.only o) (by simp) hs (Nat.le_trans hBw o.size)
  have O0 : Hid (Only (fun _ => False) w w) := Only.refl _ _
  clear h hBw
  unfold cV
  go_enter Tryz.func107, Tryz.ntmps107
  go_wp2_with fail
  refine (show Calls Tryz.prog 113 _ _ _ from HW.out _ (by repeat' first | exact O0.out | apply Only.alloc)).mono ?_
  rintro e w1 ⟨rfl, g1⟩
  have G1 : Hid (WrU B b (strCells s) true w1 ∧ Only (fun k => B ≤ k) w w1) := ⟨g1.out.1, Only.trans (show Only (fun k => B ≤ k) w _ by repeat' first | exact (Only.refl _ _) | apply Only.alloc) g1.out.2 (fun _ _ g => g)⟩
  clear HW g1
  go_wp2
  go_end0
  exact ⟨rfl, G1.out⟩
set_option maxRecDepth 100000 in
theorem witemsC (s : ByteArray) (hs : s.size ≤ 1000000) (B b g : Nat) (w : World) (h : WrU B b [] false w) (hBw : B ≤ w.heap.size) (hg : w.cell? ⟨g, 0, none⟩ = some (cV s)) : Calls Tryz.prog 96 #[.pointer (some ⟨b, 0, none⟩), .slice (some ⟨g, 0, none⟩) 1 1] w fun e w' => e = .returned (.tuple #[]) ∧ Hid (WrU B b (strCells s) true w' ∧ Only (fun k => B ≤ k) w w') := by
  have HI : Hid (Calls Tryz.prog 107 #[.pointer (some ⟨b, 0, none⟩), cV s] w fun e w' => e = .returned (.tuple #[]) ∧ Hid (WrU B b (strCells s) true w' ∧ Only (fun k => B ≤ k) w w')) := witemC s hs B b w h hBw
  unfold cV at HI hg
  clear h hBw
  go_enter Tryz.func96, Tryz.ntmps96
  go_wp2
  go_loopw [8] (fun r wr => (r = .int .i64 0 ∧ wr = w) ∨ (r = .int .i64 1 ∧ Hid (WrU B b (strCells s) true wr ∧ Only (fun k => B ≤ k) w wr))) (fun r _ => 1 - uOf r)
  case atStart => exact .inl ⟨rfl, rfl⟩
  case round =>
    rcases hrel with ⟨rfl, rfl⟩ | ⟨rfl, HO⟩
    · go_wp2_with fail
      refine (show Calls Tryz.prog 107 _ _ _ from HI.out).mono ?_
      rintro e w2 ⟨rfl, g2⟩
      clear HI hg
      go_wp2
      go_roundw
      case rel => exact .inr ⟨rfl, g2⟩
      case measure => simp [uOf]
    · obtain ⟨w1, rfl⟩ : ∃ w1, w1 = wr := ⟨_, rfl⟩
      go_wp2
      go_end0
      exact ⟨rfl, HO⟩
theorem byteCells_str (s : ByteArray) : Lib.byteCells s.data.toList = strCells s := by
  first | rfl | simp [Lib.byteCells, strCells]
set_option maxRecDepth 100000 in
theorem textC (s : ByteArray) (g : Nat) (w : World) (hg : w.cell? ⟨g, 0, none⟩ = some (cV s)) (hN : Nog w) : Calls Tryz.prog 82 #[.slice (some ⟨g, 0, none⟩) 1 1] w fun e w' => e = .returned (.tuple #[.string (if clB s then s else ⟨#[]⟩), .int .i64 (if clB s then 0 else 1)]) ∧ Only (fun _ => False) w w' := by
  have HS : Hid (Calls Tryz.prog 95 #[.slice (some ⟨g, 0, none⟩) 1 1] w fun e w' => e = .returned (.bool (clB s)) ∧ Only (fun _ => False) w w') := psoundsC s w g hg hN
  have HG : Hid (w.cell? ⟨g, 0, none⟩ = some (cV s)) := hg
  obtain ⟨bb, hbb⟩ : ∃ bb, bb = clB s := ⟨_, rfl⟩
  have HB : Hid (bb = clB s) := hbb
  rw [← hbb] at HS ⊢
  clear hg hN hbb
  go_enter Tryz.func82, Tryz.ntmps82
  go_wp2_with fail
  refine (show Calls Tryz.prog 95 _ _ _ from HS.out).mono ?_
  rintro e w1 ⟨rfl, o1⟩
  have O1 : Hid (Only (fun _ => False) w w1) := o1
  cases bb with
  | false =>
    clear HS o1
    go_wp2
    go_ret2
    exact ⟨rfl, O1.out⟩
  | true =>
    have hsz : s.size ≤ 128 ∧ 0 < s.size := by
      have := HB.out
      unfold clB at this
      exact name_size (Bool.and_eq_true .. ▸ this.symm : nameB s = true ∧ _).1
    obtain ⟨b, hb⟩ : ∃ b, b = w1.heap.size := ⟨_, rfl⟩
    obtain ⟨W2, hW2⟩ : ∃ W2, W2 = w1.alloc (.cells #[.pointer none, .slice none 0 0, .bool false] 169) := ⟨_, rfl⟩
    have A2 : WrU b b [] false W2 := ⟨Nat.le_refl _, .pointer none, .slice none 0 0, by rw [hW2]; exact va_at _ _ _ hb, .inl rfl, ⟨rfl, .inl ⟨rfl, rfl⟩⟩, by simp [Value.ownBlock]⟩
    have o2 : Only (fun _ => False) w1 W2 := by rw [hW2]; exact (Only.refl _ w1).alloc _
    have HI : Hid (Calls Tryz.prog 96 #[.pointer (some ⟨b, 0, none⟩), .slice (some ⟨g, 0, none⟩) 1 1] W2 fun e w' => e = .returned (.tuple #[]) ∧ Hid (WrU b b (strCells s) true w' ∧ Only (fun k => b ≤ k) W2 w')) := witemsC s (by omega) b b g W2 A2 (by rw [hW2]; simp; omega) ((O1.out.trans o2 (fun _ _ g => g)).cell HG.out (fun h => h))
    have H2 : Hid (Only (fun _ => False) w W2 ∧ w.heap.size ≤ b) := ⟨O1.out.trans o2 (fun _ _ g => g), by rw [hb]; exact O1.out.size⟩
    have HZ : Hid (s.size ≤ 128 ∧ 0 < s.size) := hsz
    clear HS o1 A2 o2 O1 HG hsz
    go_wp2_with fail
    rw [← hb, ← hW2]
    refine (show Calls Tryz.prog 96 _ _ _ from HI.out).mono ?_
    rintro e w3 ⟨rfl, g3⟩
    have HW : Hid (Calls Tryz.prog 97 #[.pointer (some ⟨b, 0, none⟩)] w3 fun e w' => e = .returned (.tuple #[.string ⟨s.data.toList.toArray⟩, .int .i64 0]) ∧ Below b w3 w') := by
      have hl : s.data.toList.length = s.size := Array.length_toList
      refine wwhole_any b b s.data.toList true w3 (by rw [byteCells_str]; exact g3.out.1) (fun e => ?_) (by have := HZ.out; omega)
      rw [e] at hl
      have := HZ.out
      simp at hl
      omega
    have O3 : Hid (Only (fun _ => False) w w3) := H2.out.1.trans g3.out.2 (fun k hk e => by have := H2.out.2; omega)
    clear HI g3 hW2 hb
    go_wp2_with fail
    refine (show Calls Tryz.prog 97 _ _ _ from HW.out).mono ?_
    rintro e w4 ⟨rfl, b4⟩
    have O4 : Hid (Only (fun _ => False) w w4) := O3.out.trans (⟨b4.os, b4.tape, b4.output, b4.size, fun k hk hn => b4.block k (by omega)⟩ : Only (fun k => b ≤ k) w3 w4) (fun k hk e => by have := H2.out.2; omega)
    clear HW b4 O3
    go_wp2
    go_ret2
    exact ⟨by simp, O4.out⟩
set_option maxRecDepth 100000 in
theorem vcallable_any (s : ByteArray) (w : World) (hN : Nog w) : Calls Tryz.prog 91 #[.agg #[.string s]] w fun e w' => e = .returned (.bool (clB s)) ∧ Only (fun _ => False) w w' := by
  have HT : Hid (∀ w1 g, Only (fun _ => False) w w1 → w1.cell? ⟨g, 0, none⟩ = some (.iface 111 (.agg #[.string s])) → Calls Tryz.prog 82 #[.slice (some ⟨g, 0, none⟩) 1 1] w1 fun e w' => e = .returned (.tuple #[.string (if clB s then s else ⟨#[]⟩), .int .i64 (if clB s then 0 else 1)]) ∧ Only (fun _ => False) w1 w') := fun w1 g o hg => textC s g w1 hg (hN.frame o)
  have O0 : Hid (Only (fun _ => False) w w) := Only.refl _ _
  obtain ⟨bb, hbb⟩ : ∃ bb, bb = clB s := ⟨_, rfl⟩
  rw [← hbb] at HT ⊢
  clear hN hbb
  go_enter Tryz.func91, Tryz.ntmps91
  go_wp2_with fail
  refine (show Calls Tryz.prog 82 _ _ _ from HT.out _ _ (by repeat' first | exact O0.out | apply Only.alloc) (by simp [go_sem])).mono ?_
  rintro e w1 ⟨rfl, o1⟩
  have O1 : Hid (Only (fun _ => False) w w1) := Only.trans (show Only (fun _ => False) w _ by repeat' first | exact (Only.refl _ _) | apply Only.alloc) o1 (fun _ _ g => g)
  clear HT o1
  cases bb with
  | false =>
    go_wp2
    go_ret
    exact ⟨rfl, O1.out⟩
  | true =>
    go_wp2
    go_ret
    exact ⟨rfl, O1.out⟩
end Go.Proofs.YthlloenonjagbaaGreatDoor
namespace Go.Proofs.YthlloenonjagbaaGreatDoor
open Go.RowKit Go.Lib
set_option linter.unusedSimpArgs false
set_option linter.unusedVariables false
/-- v is none of the six values -/
structure BadV (v : Value) : Prop where
  k : v = .nilIface ∨ ∃ T x, v = .iface T x
  l : ∀ W : World, (Instr.typeAssert v 27 80 true).run Tryz.prog W = .ok (.tuple #[.agg #[.slice none 0 0], .bool false]) W
  q : ∀ W : World, (Instr.typeAssert v 27 82 true).run Tryz.prog W = .ok (.tuple #[.agg #[.slice none 0 0], .bool false]) W
  i : ∀ W : World, (Instr.typeAssert v 27 59 true).run Tryz.prog W = .ok (.tuple #[.agg #[.int .i64 0], .bool false]) W
  s : ∀ W : World, (Instr.typeAssert v 27 76 true).run Tryz.prog W = .ok (.tuple #[.agg #[.string ByteArray.empty], .bool false]) W
  x : ∀ W : World, (Instr.typeAssert v 27 84 true).run Tryz.prog W = .ok (.tuple #[.agg #[.int .i64 0], .bool false]) W
  b : ∀ W : World, (Instr.typeAssert v 27 78 true).run Tryz.prog W = .ok (.tuple #[.agg #[.bool false], .bool false]) W
set_option maxRecDepth 100000 in
theorem bad_nil : BadV .nilIface := by
  refine ⟨.inl rfl, ?_, ?_, ?_, ?_, ?_, ?_⟩ <;> intro W <;> rfl
set_option maxRecDepth 100000 in
theorem bad_ptr (T : TypeId) (x : Value) (h1 : T ≠ 80) (h2 : T ≠ 82) (h3 : T ≠ 59) (h4 : T ≠ 76) (h5 : T ≠ 84) (h6 : T ≠ 78) : BadV (.iface T x) := by
  refine ⟨.inr ⟨T, x, rfl⟩, ?_, ?_, ?_, ?_, ?_, ?_⟩
  · exact va_miss T 80 27 _ Tryz.underlying80 (by intro m h; cases h) h1 _ (fun _ => rfl) x
  · exact va_miss T 82 27 _ Tryz.underlying82 (by intro m h; cases h) h2 _ (fun _ => rfl) x
  · exact va_miss T 59 27 _ Tryz.underlying59 (by intro m h; cases h) h3 _ (fun _ => rfl) x
  · exact va_miss T 76 27 _ Tryz.underlying76 (by intro m h; cases h) h4 _ (fun _ => rfl) x
  · exact va_miss T 84 27 _ Tryz.underlying84 (by intro m h; cases h) h5 _ (fun _ => rfl) x
  · exact va_miss T 78 27 _ Tryz.underlying78 (by intro m h; cases h) h6 _ (fun _ => rfl) x
/-- a measure in memory -/
def VmB (w : World) (M : Nat) (k d : Int) : Prop := w.heap[M]? = some (.cells #[.int .i64 k, .int .i64 d] 86)
set_option maxRecDepth 100000 in
theorem vcount_any (M : Nat) (k d : Int) (w : World) (h : VmB w M k d) (h1 : 0 ≤ k) (h2 : k < 1000) : Calls Tryz.prog 74 #[.pointer (some ⟨M, 0, none⟩)] w fun e w' => e = .returned (.bool true) ∧ Only (fun b => b = M) w w' ∧ VmB w' M (k + 1) d := by
  have c0 := wr_cell h 0
  have f0 := wr_froz h 0
  simp only [List.getElem?_toArray, List.getElem?_cons_zero] at c0
  have HM : Hid (VmB w M k d) := h
  have i1 : k + 1 ≤ 1024 := by omega
  clear h
  go_enter Tryz.func74, Tryz.ntmps74
  go_wp2
  go_ret
  exact ⟨by simp [i1], (Only.refl (fun b => b = M) w).setCell _ _ (fun _ => rfl), (heap_setCell_same _ _ _ _ _ _ HM.out).trans rfl⟩
set_option maxRecDepth 100000 in
theorem venter_any (M : Nat) (k d : Int) (w : World) (h : VmB w M k d) (h1 : 0 ≤ d) (h2 : d ≤ 32) : Calls Tryz.prog 75 #[.pointer (some ⟨M, 0, none⟩), .int .i64 1] w fun e w' => e = .returned (.bool true) ∧ Only (fun b => b = M) w w' ∧ ∃ d', VmB w' M k d' ∧ 0 ≤ d' ∧ d' ≤ 32 := by
  have c1 := wr_cell h 1
  have f1 := wr_froz h 1
  simp only [List.getElem?_toArray, List.getElem?_cons_succ, List.getElem?_cons_zero] at c1
  have HM : Hid (VmB w M k d) := h
  clear h
  go_enter Tryz.func75, Tryz.ntmps75
  go_wp2
  all_goals
    go_ret
    refine ⟨rfl, (Only.refl (fun b => b = M) w).setCell _ _ (fun _ => rfl), _, (heap_setCell_same _ _ _ _ _ _ HM.out).trans rfl, ?_, ?_⟩ <;> omega
set_option maxRecDepth 100000 in
theorem alone_bad (v : Value) (hv : BadV v) (w : World) : Calls Tryz.prog 79 #[v] w fun e w' => e = .returned (.bool false) ∧ Only (fun _ => False) w w' := by
  have hi := hv.i
  have hs := hv.s
  have hx := hv.x
  have hb := hv.b
  have O0 : Hid (Only (fun _ => False) w w) := Only.refl _ _
  clear hv
  go_enter Tryz.func79, Tryz.ntmps79
  go_wp2
  all_goals
    go_ret
    refine ⟨rfl, ?_⟩
    repeat (first | exact O0.out | refine Only.alloc ?_ _)
set_option maxRecDepth 100000 in
theorem alone_int (n : Int) (h1 : -1000 ≤ n) (h2 : n ≤ 1000) (w : World) : Calls Tryz.prog 79 #[.iface 59 (.agg #[.int .i64 n])] w fun e w' => e = .returned (.bool true) ∧ Only (fun _ => False) w w' := by
  have hi := va_hit 59 27 _ Tryz.underlying59 (by intro m h; cases h)
  have O0 : Hid (Only (fun _ => False) w w) := Only.refl _ _
  have i1 : (-1152921504606846976 : Int) ≤ n := by omega
  have i2 : n ≤ 1152921504606846975 := by omega
  go_enter Tryz.func79, Tryz.ntmps79
  go_wp2
  all_goals
    go_ret
    refine ⟨by simp [i1, i2], ?_⟩
    repeat (first | exact O0.out | refine Only.alloc ?_ _)
set_option maxRecDepth 100000 in
theorem vval_bad (v : Value) (hv : BadV v) (M : Nat) (k d o : Int) (w : World) (h : VmB w M k d) (h1 : 0 ≤ k) (h2 : k < 1000) : Calls Tryz.prog 53 #[.pointer (some ⟨M, 0, none⟩), v, .int .i64 o] w fun e w' => e = .returned (.bool false) ∧ Only (fun b => b = M) w w' := by
  have HM : Hid (Calls Tryz.prog 74 #[.pointer (some ⟨M, 0, none⟩)] w fun e w' => e = .returned (.bool true) ∧ Only (fun b => b = M) w w' ∧ VmB w' M (k + 1) d) := vcount_any M k d w h h1 h2
  have HA : Hid (∀ w1, Calls Tryz.prog 79 #[v] w1 fun e w' => e = .returned (.bool false) ∧ Only (fun _ => False) w1 w') := alone_bad v hv
  have hl := hv.l
  have hq := hv.q
  clear h hv
  go_enter Tryz.func53, Tryz.ntmps53
  go_wp2_with fail
  refine (show Calls Tryz.prog 74 _ _ _ from HM.out).mono ?_
  rintro e w1 ⟨rfl, o1, _⟩
  have O1 : Hid (Only (fun b => b = M) w w1) := o1
  clear HM o1
  go_wp2_with fail
  all_goals
    refine (show Calls Tryz.prog 79 _ _ _ from HA.out _).mono ?_
    rintro e w2 ⟨rfl, o2⟩
    have O2 : Hid (Only (fun b => b = M) w w2) := ((O1.out.alloc _).alloc _).trans o2 (fun _ _ g => g.elim)
    clear o2
    go_wp2
    go_ret
    exact ⟨rfl, O2.out⟩
set_option maxRecDepth 100000 in
theorem vval_int (n : Int) (g1 : -1000 ≤ n) (g2 : n ≤ 1000) (M : Nat) (k d o : Int) (w : World) (h : VmB w M k d) (h1 : 0 ≤ k) (h2 : k < 1000) : Calls Tryz.prog 53 #[.pointer (some ⟨M, 0, none⟩), .iface 59 (.agg #[.int .i64 n]), .int .i64 o] w fun e w' => e = .returned (.bool true) ∧ Only (fun b => b = M) w w' ∧ VmB w' M (k + 1) d := by
  have HM : Hid (Calls Tryz.prog 74 #[.pointer (some ⟨M, 0, none⟩)] w fun e w' => e = .returned (.bool true) ∧ Only (fun b => b = M) w w' ∧ VmB w' M (k + 1) d) := vcount_any M k d w h h1 h2
  have HA : Hid (∀ w1, Calls Tryz.prog 79 #[.iface 59 (.agg #[.int .i64 n])] w1 fun e w' => e = .returned (.bool true) ∧ Only (fun _ => False) w1 w') := alone_int n g1 g2
  have hl := va_miss 59 80 27 _ Tryz.underlying80 (by intro m h; cases h) (by decide) (.agg #[.slice none 0 0]) (fun _ => rfl)
  have hq := va_miss 59 82 27 _ Tryz.underlying82 (by intro m h; cases h) (by decide) (.agg #[.slice none 0 0]) (fun _ => rfl)
  have hb : M < w.heap.size := (Array.getElem?_eq_some_iff.mp h).1
  have HB : Hid (M < w.heap.size) := hb
  clear h g1 g2 hb
  go_enter Tryz.func53, Tryz.ntmps53
  go_wp2_with fail
  refine (show Calls Tryz.prog 74 _ _ _ from HM.out).mono ?_
  rintro e w1 ⟨rfl, o1, m1⟩
  have O1 : Hid (Only (fun b => b = M) w w1) := o1
  have M1 : Hid (VmB w1 M (k + 1) d) := m1
  clear HM o1 m1
  go_wp2_with fail
  all_goals
    refine (show Calls Tryz.prog 79 _ _ _ from HA.out _).mono ?_
    rintro e w2 ⟨rfl, o2⟩
    have o3 : Only (fun _ => False) w1 w2 := (((Only.refl _ w1).alloc _).alloc _).trans o2 (fun _ _ g => g)
    have O2 : Hid (Only (fun b => b = M) w w2) := O1.out.trans o3 (fun _ _ g => g.elim)
    have M2 : Hid (VmB w2 M (k + 1) d) := (o3.block M (by first | exact Nat.lt_of_lt_of_le HB.out O1.out.size | exact (Array.getElem?_eq_some_iff.mp M1.out).1) (fun h => h)).trans M1.out
    clear o2 o3
    go_wp2
    go_ret
    exact ⟨rfl, O2.out, M2.out⟩
end Go.Proofs.YthlloenonjagbaaGreatDoor
namespace Go.Proofs
open Go.Shelf
def Tryz.laysValid_ren : Go.Shelf.Ren := ⟨fun | 196 => 92 | 259 => 105 | n => n, fun | 9 => 9 | 4 => 4 | 3 => 3 | 5 => 5 | 12 => 12 | 119 => 199 | 0 => 0 | 46 => 203 | 139 => 202 | 138 => 201 | 53 => 136 | n => n, fun | 3 => 0 | 4 => 1 | n => n⟩
theorem Tryz.laysValid : Go.Proofs.Lays.n196 Tryz.prog Tryz.laysValid_ren := {
  mixed := by kernel_rfl
  f196 := Tryz.func92.trans (congrArg some (by kernel_rfl))
  f259 := Tryz.func105.trans (congrArg some (by kernel_rfl))
  t0 := Tryz.underlying0
  a0 := Tryz.isAgg0
  z0 := Tryz.sizeOf0
  v0 := Tryz.zeroValue0
  t3 := Tryz.underlying3
  a3 := Tryz.isAgg3
  z3 := Tryz.sizeOf3
  v3 := Tryz.zeroValue3
  t4 := Tryz.underlying4
  a4 := Tryz.isAgg4
  z4 := Tryz.sizeOf4
  v4 := Tryz.zeroValue4
  t5 := Tryz.underlying5
  a5 := Tryz.isAgg5
  z5 := Tryz.sizeOf5
  v5 := Tryz.zeroValue5
  t9 := Tryz.underlying9
  a9 := Tryz.isAgg9
  z9 := Tryz.sizeOf9
  v9 := Tryz.zeroValue9
  t12 := Tryz.underlying12
  a12 := Tryz.isAgg12
  z12 := Tryz.sizeOf12
  v12 := Tryz.zeroValue12
  t46 := Tryz.underlying203
  a46 := Tryz.isAgg203
  z46 := Tryz.sizeOf203
  v46 := Tryz.zeroValue203
  t53 := Tryz.underlying136
  a53 := Tryz.isAgg136
  z53 := Tryz.sizeOf136
  v53 := Tryz.zeroValue136
  t119 := Tryz.underlying199
  a119 := Tryz.isAgg199
  z119 := Tryz.sizeOf199
  t138 := Tryz.underlying201
  a138 := Tryz.isAgg201
  z138 := Tryz.sizeOf201
  v138 := Tryz.zeroValue201
  t139 := Tryz.underlying202
  a139 := Tryz.isAgg202
  z139 := Tryz.sizeOf202
  v139 := Tryz.zeroValue202
  g3 := by kernel_rfl
  g4 := by kernel_rfl }
end Go.Proofs
