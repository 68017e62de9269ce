/- parse's writer at any state: add and word. value.Text of the number 7. The text of an item that pushes a value without parts; value.word. The words of a value's text. The text of a value: addWords of any value, strings.Join, Text. parse's writer: what holds no others, at any state. parse's writer: lists, quotations, items; any sound value or item. parse's writer: lists, items; any sound value or item. parse's writer of any sound value or item. -/
import Derived.Test.YtmpfbjmaiddigaaGreatDoorGav
import Derived.Test.YtmpfbjmaiddigaaGreatDoorGar
import Derived.Test.YtmpfbjmaiddigaaGreatDoorGau
namespace Go.Proofs.YtmpfbjmaiddigaaGreatDoor
open Go.RowKit Go.Lib
set_option linter.unusedSimpArgs false
set_option linter.unusedVariables false
/-- a writer under way, with a text of its own, of bounded length -/
def WuG (B b : Nat) (X : Nat → Prop) (bg : Bool) (w : World) : Prop := ∃ l : List UInt8, WrX B b X (Lib.byteCells l) bg w ∧ l.length ≤ 140000
theorem WrX.only {B b : Nat} {X : Nat → Prop} {bs : List Value} {bg : Bool} {w w' : World} (h : WrX B b X bs bg w) (o : Only (fun _ => False) w w') : WrX B b X bs bg w' := by
  obtain ⟨hB, hXb, hXs, p, v, hbk, hp, hown, hne, hXv⟩ := h
  exact ⟨hB, hXb, fun k hk => by
    obtain ⟨cs, T, z, q1, q2⟩ := hXs k hk
    exact ⟨cs, T, z, (o.block k (Array.getElem?_eq_some_iff.1 q1).1 (fun g => g)).trans q1, q2⟩, p, v, (o.block b (Array.getElem?_eq_some_iff.1 hbk).1 (fun g => g)).trans hbk, hp, ownsF_keep hown o (fun _ _ g => g), hne, hXv⟩
theorem WrX.begun {B b : Nat} {X : Nat → Prop} {bs : List Value} {bg : Bool} {w : World} (h : WrX B b X bs bg w) (y : Bool) : WrX B b X bs y (w.setCell ⟨b, 2, none⟩ (.bool y)) ∧ Only (fun k => k = b) w (w.setCell ⟨b, 2, none⟩ (.bool y)) := by
  obtain ⟨hB, hXb, hXs, p, v, hbk, hp, hown, hne, hXv⟩ := h
  have o : Only (fun k => k = b) w (w.setCell ⟨b, 2, none⟩ (.bool y)) := (Only.refl (fun k => k = b) w).setCell _ _ (fun _ => rfl)
  exact ⟨⟨hB, hXb, fun k hk => by
    obtain ⟨cs, T, z, q1, q2⟩ := hXs k hk
    exact ⟨cs, T, z, (o.block k (Array.getElem?_eq_some_iff.1 q1).1 (fun g => hXb (g ▸ hk))).trans q1, q2⟩, p, v, (heap_setCell_same _ _ _ _ _ _ hbk).trans rfl, hp, ownsF_keep hown o (fun k hk e => hne (by rw [hk, e])), hne, hXv⟩, o⟩
set_option maxRecDepth 100000 in
theorem wadd_x (B b : Nat) (X : Nat → Prop) (bs : List Value) (bg : Bool) (s : ByteArray) (w : World) (h : WrX B b X bs bg w) (hf : bs.length ≤ 65536) (hs : s.size ≤ 1000000) (hBw : B ≤ w.heap.size) :
    Calls Tryz.prog 38 #[.pointer (some ⟨b, 0, none⟩), .string s] w fun e w' => e = .returned (.tuple #[]) ∧ Hid (WrX B b X (bs ++ strCells s) bg w' ∧ Only (fun k => B ≤ k ∧ ¬ X k) w w') := by
  have HF : Hid (Calls Tryz.prog 34 #[.pointer (some ⟨b, 0, none⟩)] w fun e w' => e = .returned (.bool false) ∧ w' = w) := by
    have := wfull_any B b bs bg w h.u
    rwa [show decide (65536 < (bs.length : Int)) = false by simp; omega] at this
  have HW : Hid (Calls Tryz.prog 56 #[.pointer (some ⟨b, 0, none⟩), .string s] w fun e w' => ∃ q, e = .returned (.tuple #[q, .nilIface]) ∧ WrX B b X (bs ++ strCells s) bg w' ∧ Only (fun k => B ≤ k ∧ ¬ X k) w w') := wwrite_x B b X bs bg s w h (by omega) hBw
  clear h hf hs hBw
  go_enter Tryz.func38, Tryz.ntmps38
  go_wp2_with fail
  refine (show Calls Tryz.prog 34 _ _ _ from HF.out).mono ?_
  rintro e w1 ⟨rfl, rfl⟩
  clear HF
  go_wp2_with fail
  refine (show Calls Tryz.prog 56 _ _ _ from HW.out).mono ?_
  rintro e w2 ⟨q, rfl, g1, g2⟩
  have G : Hid (WrX B b X (bs ++ strCells s) bg w2 ∧ Only (fun k => B ≤ k ∧ ¬ X k) w1 w2) := ⟨g1, g2⟩
  clear HW g1 g2
  go_wp2
  go_end0
  exact ⟨rfl, G⟩
theorem WuG.only {B b : Nat} {X : Nat → Prop} {bg : Bool} {w w' : World} (h : WuG B b X bg w) (o : Only (fun _ => False) w w') : WuG B b X bg w' := by
  obtain ⟨l, h1, h2⟩ := h
  exact ⟨l, h1.only o, h2⟩
theorem cells_app (l : List UInt8) (s : ByteArray) : Lib.byteCells l ++ strCells s = Lib.byteCells (l ++ s.data.toList) := by
  simp [Lib.byteCells, strCells]
theorem cells_len (l : List UInt8) : (Lib.byteCells l).length = l.length := by simp [Lib.byteCells]
set_option maxRecDepth 100000 in
theorem wadd_all (B b : Nat) (X : Nat → Prop) (bg : Bool) (s : ByteArray) (w : World) (h : WuG B b X bg w) (hs : s.size ≤ 66000) (hBw : B ≤ w.heap.size) :
    Calls Tryz.prog 38 #[.pointer (some ⟨b, 0, none⟩), .string s] w fun e w' => e = .returned (.tuple #[]) ∧ Hid (WuG B b X bg w' ∧ Only (fun k => B ≤ k ∧ ¬ X k) w w') := by
  obtain ⟨l, hw, hl⟩ := h
  by_cases hf : l.length ≤ 65536
  · refine (wadd_x B b X _ bg s w hw (by rw [cells_len]; exact hf) (by omega) hBw).mono fun e w' g => ?_
    refine ⟨g.1, ⟨l ++ s.data.toList, by rw [← cells_app]; exact g.2.out.1, ?_⟩, g.2.out.2⟩
    have : s.data.toList.length = s.size := Array.length_toList
    rw [List.length_append]
    omega
  · have HF : Hid (Calls Tryz.prog 34 #[.pointer (some ⟨b, 0, none⟩)] w fun e w' => e = .returned (.bool true) ∧ w' = w) := by
      have := wfull_any B b _ bg w hw.u
      rwa [show decide (65536 < ((Lib.byteCells l).length : Int)) = true by rw [cells_len]; simp; omega] at this
    have HG : Hid (WuG B b X bg w ∧ Only (fun k => B ≤ k ∧ ¬ X k) w w) := ⟨⟨l, hw, hl⟩, Only.refl _ _⟩
    clear hw hl hf hs hBw
    go_enter Tryz.func38, Tryz.ntmps38
    go_wp2_with fail
    refine (show Calls Tryz.prog 34 _ _ _ from HF.out).mono ?_
    rintro e w1 ⟨rfl, hw⟩
    obtain rfl : w = w1 := hw.symm
    clear HF hw
    go_wp2
    go_end0
    exact ⟨rfl, HG⟩
theorem WuG.begun {B b : Nat} {X : Nat → Prop} {bg : Bool} {w : World} (h : WuG B b X bg w) (y : Bool) : WuG B b X y (w.setCell ⟨b, 2, none⟩ (.bool y)) ∧ Only (fun k => k = b) w (w.setCell ⟨b, 2, none⟩ (.bool y)) := by
  obtain ⟨l, hw, hl⟩ := h
  exact ⟨⟨l, (hw.begun y).1, hl⟩, (hw.begun y).2⟩
theorem WuG.at2 {B b : Nat} {X : Nat → Prop} {bg : Bool} {w : World} (h : WuG B b X bg w) : w.cell? ⟨b, 2, none⟩ = some (.bool bg) ∧ w.frozen? ⟨b, 2, none⟩ = false ∧ B ≤ b ∧ ¬ X b := by
  obtain ⟨l, ⟨h1, hX, _, p, v, h2, _⟩, _⟩ := h
  exact ⟨(wr_cell h2 2).trans rfl, wr_froz h2 2, h1, hX⟩
set_option maxRecDepth 100000 in
set_option maxHeartbeats 4000000 in
theorem wword_all (B b : Nat) (X : Nat → Prop) (bg : Bool) (s : ByteArray) (w : World) (h : WuG B b X bg w) (hs : s.size ≤ 66000) (hBw : B ≤ w.heap.size) :
    Calls Tryz.prog 51 #[.pointer (some ⟨b, 0, none⟩), .string s] w fun e w' => e = .returned (.tuple #[]) ∧ Hid (WuG B b X true w' ∧ Only (fun k => B ≤ k ∧ ¬ X k) w w') := by
  have HA : Hid (∀ w1, WuG B b X bg w1 → B ≤ w1.heap.size → Calls Tryz.prog 38 #[.pointer (some ⟨b, 0, none⟩), .string s] w1 fun e w' => e = .returned (.tuple #[]) ∧ Hid (WuG B b X bg w' ∧ Only (fun k => B ≤ k ∧ ¬ X k) w1 w')) := fun w1 h1 hB => wadd_all B b X bg s w1 h1 hs hB
  have HG : Hid (WuG B b X bg w ∧ B ≤ w.heap.size) := ⟨h, hBw⟩
  obtain ⟨c2, _, hB⟩ := h.at2
  have HB : Hid (B ≤ b ∧ ¬ X b) := hB
  cases bg with
  | false =>
    clear h hs hBw hB
    go_enter Tryz.func51, Tryz.ntmps51
    go_wp2_with fail
    refine (show Calls Tryz.prog 38 _ _ _ from HA.out _ HG.out.1 HG.out.2).mono ?_
    rintro e w1 ⟨rfl, g1⟩
    obtain ⟨d2, f2, _⟩ := g1.out.1.at2
    clear HA c2 HG
    go_wp2
    go_end0
    obtain ⟨q1, q2⟩ := g1.out.1.begun true
    exact ⟨rfl, q1, g1.out.2.trans q2 (fun k hk e => by subst e; exact HB.out)⟩
  | true =>
    have HS : Hid _ := wadd_all B b X true ⟨#[32]⟩ w h (by decide) hBw
    clear h hs hBw hB
    go_enter Tryz.func51, Tryz.ntmps51
    go_wp2_with fail
    refine (show Calls Tryz.prog 38 _ _ _ from HS.out).mono ?_
    rintro e w1 ⟨rfl, g1⟩
    clear HS c2
    go_wp2_with fail
    refine (show Calls Tryz.prog 38 _ _ _ from HA.out _ g1.out.1 (Nat.le_trans HG.out.2 g1.out.2.size)).mono ?_
    rintro e w2 ⟨rfl, g2⟩
    obtain ⟨d2, f2, _⟩ := g2.out.1.at2
    have HO : Hid (Only (fun k => B ≤ k ∧ ¬ X k) w w2) := g1.out.2.trans g2.out.2 (fun _ _ g => g)
    clear HA HG g1
    go_wp2
    go_end0
    obtain ⟨q1, q2⟩ := g2.out.1.begun true
    exact ⟨rfl, q1, HO.out.trans q2 (fun k hk e => by subst e; exact HB.out)⟩
end Go.Proofs.YtmpfbjmaiddigaaGreatDoor
namespace Go.Proofs.YtmpfbjmaiddigaaGreatDoor
open Go.RowKit Go.Lib
set_option linter.unusedSimpArgs false
set_option linter.unusedVariables false
end Go.Proofs.YtmpfbjmaiddigaaGreatDoor
namespace Go.Proofs.YtmpfbjmaiddigaaGreatDoor
open Go.RowKit Go.Lib
set_option linter.unusedSimpArgs false
set_option linter.unusedVariables false
/-- an item that pushes v -/
def pV (T : TypeId) (y : Value) : Value := .iface 81 (.agg #[.iface T y])
set_option maxRecDepth 100000 in
theorem pitemV {T : TypeId} {y : Value} (hv : PsV (.iface T y)) (M : Nat) (w : World) (hT : Tb w) (hg : Mg M) (h : MlB w M 1024) : Calls Tryz.prog 49 #[.pointer (some ⟨M, 0, none⟩), pV T y, .int .i64 32] w fun e w' => e = .returned (.bool true) ∧ Only (fun b => b = M) w w' := by
  have HV : Hid (∀ w1, Only (fun _ => False) w w1 → Calls Tryz.prog 69 #[.pointer (some ⟨M, 0, none⟩), .iface T y, .int .i64 32] w1 fun e w' => e = .returned (.bool true) ∧ Only (fun b => b = M) w1 w') := fun w1 o => hv M w1 (hT.frame o) (mlB_keep h o) hg
  have hP := va_hit 81 36 _ Tryz.underlying81 (by intro m h; cases h)
  have O0 : Hid (Only (fun _ => False) w w) := Only.refl _ _
  clear h hv hT hg
  unfold pV
  go_enter Tryz.func49, Tryz.ntmps49
  go_wp2_with fail
  refine (show Calls Tryz.prog 69 _ _ _ from HV.out _ (O0.out.alloc _)).mono ?_
  rintro e w1 ⟨rfl, o1⟩
  have O1 : Hid (Only (fun b => b = M) w w1) := ((Only.refl (fun b => b = M) w).alloc _).trans o1 (fun _ _ g => g)
  clear HV o1
  go_wp2
  go_ret
  exact ⟨rfl, O1.out⟩
set_option maxRecDepth 100000 in
theorem psoundV {T : TypeId} {y : Value} (hv : PsV (.iface T y)) (w : World) (hT : Tb w) : Calls Tryz.prog 32 #[pV T y] w fun e w' => e = .returned (.bool true) ∧ Only (fun _ => False) w w' := by
  have HI : Hid (Calls Tryz.prog 49 #[.pointer (some ⟨w.heap.size, 0, none⟩), pV T y, .int .i64 32] (w.alloc (.cells #[.int .i64 1024] 126)) fun e w' => e = .returned (.bool true) ∧ Only (fun b => b = w.heap.size) (w.alloc (.cells #[.int .i64 1024] 126)) w') := pitemV hv _ _ (hT.frame ((Only.refl _ w).alloc _)) (by have := hT.lt; exact ⟨by omega, by omega, by omega⟩) (va_at _ _ _ rfl)
  clear hv hT
  unfold pV at HI ⊢
  go_enter Tryz.func32, Tryz.ntmps32
  go_wp2_with fail
  refine (show Calls Tryz.prog 49 _ _ _ from HI.out).mono ?_
  rintro e w1 ⟨rfl, o1⟩
  have O1 : Hid (Only (fun _ => False) w w1) := ((Only.refl (fun _ => False) w).alloc _).trans o1 (fun k hk e => by omega)
  clear HI o1
  go_wp2
  go_ret
  exact ⟨rfl, O1.out⟩
set_option maxRecDepth 100000 in
theorem psoundsV {T : TypeId} {y : Value} (hv : PsV (.iface T y)) (w : World) (hT : Tb w) (g : Nat) (hg : w.cell? ⟨g, 0, none⟩ = some (pV T y)) : Calls Tryz.prog 17 #[.slice (some ⟨g, 0, none⟩) 1 1] w fun e w' => e = .returned (.bool true) ∧ Only (fun _ => False) w w' := by
  have HI : Hid (∀ w1, Only (fun _ => False) w w1 → Calls Tryz.prog 32 #[pV T y] w1 fun e w' => e = .returned (.bool true) ∧ Only (fun _ => False) w1 w') := fun w1 o => psoundV hv w1 (hT.frame o)
  clear hv hT
  unfold pV at HI hg
  go_enter Tryz.func17, Tryz.ntmps17
  go_wp2
  go_loopw [7] (fun r wr => ∃ i : Int, r = .int .i64 i ∧ (i = 0 ∨ i = 1) ∧ Hid (Only (fun _ => False) w wr)) (fun r _ => 1 - uOf r)
  case atStart => exact ⟨0, rfl, .inl rfl, Only.refl _ _⟩
  case round =>
    obtain ⟨i, rfl, hi, HO⟩ := hrel
    obtain ⟨w1, rfl⟩ : ∃ w1, w1 = wr := ⟨_, rfl⟩
    rcases hi with rfl | rfl
    · have hg1 := HO.out.cell hg (fun h => h)
      go_wp2_with fail
      refine (show Calls Tryz.prog 32 _ _ _ from HI.out _ HO.out).mono ?_
      rintro e w2 ⟨rfl, o2⟩
      have O2 : Hid (Only (fun _ => False) w w2) := HO.out.trans o2 (fun _ _ g => g)
      clear HI o2 hg1 HO
      go_wp2
      go_roundw
      case rel => exact ⟨1, rfl, .inr rfl, O2⟩
      case measure => simp [uOf]
    · go_wp2
      go_ret
      exact ⟨rfl, HO.out⟩
set_option maxRecDepth 100000 in
theorem witemV {T : TypeId} {y : Value} {t : ByteArray} (hv : WvV (.iface T y) t) (B b : Nat) (w : World) (hT : Tx w) (h : WrU B b [] false w) (hBw : B ≤ w.heap.size) : Calls Tryz.prog 33 #[.pointer (some ⟨b, 0, none⟩), pV T y] w fun e w' => e = .returned (.tuple #[]) ∧ Hid (WrU B b (strCells t) true w' ∧ Only (fun k => B ≤ k) w w') := by
  have HV : Hid (Calls Tryz.prog 50 #[.pointer (some ⟨b, 0, none⟩), .iface T y] (w.alloc (.cells #[.iface T y] 81)) fun e w' => e = .returned (.tuple #[]) ∧ Hid (WrU B b (strCells t) true w' ∧ Only (fun k => B ≤ k) (w.alloc (.cells #[.iface T y] 81)) w')) := hv B b _ (hT.frame ((Only.refl _ w).alloc _)) (h.alloc _) (by simp; omega)
  have hP := va_hit 81 36 _ Tryz.underlying81 (by intro m h; cases h)
  have O0 : Hid (Only (fun k => B ≤ k) w (w.alloc (.cells #[.iface T y] 81))) := (Only.refl (fun k => B ≤ k) w).alloc _
  clear h hBw hv hT
  unfold pV
  go_enter Tryz.func33, Tryz.ntmps33
  go_wp2_with fail
  refine (show Calls Tryz.prog 50 _ _ _ from HV.out).mono ?_
  rintro e w1 ⟨rfl, g1⟩
  clear HV
  go_wp2
  go_end0
  exact ⟨rfl, g1.out.1, O0.out.trans g1.out.2 (fun _ _ g => g)⟩
set_option maxRecDepth 100000 in
theorem witemsV {T : TypeId} {y : Value} {t : ByteArray} (hv : WvV (.iface T y) t) (B b g : Nat) (w : World) (hT : Tx w) (h : WrU B b [] false w) (hBw : B ≤ w.heap.size) (hg : w.cell? ⟨g, 0, none⟩ = some (pV T y)) : Calls Tryz.prog 18 #[.pointer (some ⟨b, 0, none⟩), .slice (some ⟨g, 0, none⟩) 1 1] w fun e w' => e = .returned (.tuple #[]) ∧ Hid (WrU B b (strCells t) true w' ∧ Only (fun k => B ≤ k) w w') := by
  have HI : Hid (Calls Tryz.prog 33 #[.pointer (some ⟨b, 0, none⟩), pV T y] w fun e w' => e = .returned (.tuple #[]) ∧ Hid (WrU B b (strCells t) true w' ∧ Only (fun k => B ≤ k) w w')) := witemV hv B b w hT h hBw
  clear h hBw hv hT
  unfold pV at HI hg
  go_enter Tryz.func18, Tryz.ntmps18
  go_wp2
  go_loopw [8] (fun r wr => (r = .int .i64 0 ∧ wr = w) ∨ (r = .int .i64 1 ∧ Hid (WrU B b (strCells t) true wr ∧ Only (fun k => B ≤ k) w wr))) (fun r _ => 1 - uOf r)
  case atStart => exact .inl ⟨rfl, rfl⟩
  case round =>
    rcases hrel with ⟨rfl, rfl⟩ | ⟨rfl, HO⟩
    · go_wp2_with fail
      refine (show Calls Tryz.prog 33 _ _ _ from HI.out).mono ?_
      rintro e w2 ⟨rfl, g2⟩
      clear HI hg
      go_wp2
      go_roundw
      case rel => exact .inr ⟨rfl, g2⟩
      case measure => simp [uOf]
    · obtain ⟨w1, rfl⟩ : ∃ w1, w1 = wr := ⟨_, rfl⟩
      go_wp2
      go_end0
      exact ⟨rfl, HO⟩
set_option maxRecDepth 100000 in
theorem textV {T : TypeId} {y : Value} {t : ByteArray} (hp : PsV (.iface T y)) (hv : WvV (.iface T y) t) (h0 : 0 < t.size) (h1 : t.size ≤ 65536) (g : Nat) (w : World) (hT : Tx w) (hg : w.cell? ⟨g, 0, none⟩ = some (pV T y)) : Calls Tryz.prog 7 #[.slice (some ⟨g, 0, none⟩) 1 1] w fun e w' => e = .returned (.tuple #[.string t, .int .i64 0]) ∧ Only (fun _ => False) w w' := by
  have HS : Hid (Calls Tryz.prog 17 #[.slice (some ⟨g, 0, none⟩) 1 1] w fun e w' => e = .returned (.bool true) ∧ Only (fun _ => False) w w') := psoundsV hp w hT.1 g hg
  have HG : Hid (w.cell? ⟨g, 0, none⟩ = some (pV T y)) := hg
  have HTx : Hid (Tx w) := hT
  have HZ : Hid (0 < t.size ∧ t.size ≤ 65536) := ⟨h0, h1⟩
  clear hg hp hT h0 h1
  go_enter Tryz.func7, Tryz.ntmps7
  go_wp2_with fail
  refine (show Calls Tryz.prog 17 _ _ _ from HS.out).mono ?_
  rintro e w1 ⟨rfl, o1⟩
  have O1 : Hid (Only (fun _ => False) w w1) := o1
  obtain ⟨b, hb⟩ : ∃ b, b = w1.heap.size := ⟨_, rfl⟩
  obtain ⟨W2, hW2⟩ : ∃ W2, W2 = w1.alloc (.cells #[.pointer none, .slice none 0 0, .bool false] 62) := ⟨_, rfl⟩
  have A2 : WrU b b [] false W2 := ⟨Nat.le_refl _, .pointer none, .slice none 0 0, by rw [hW2]; exact va_at _ _ _ hb, .inl rfl, ⟨rfl, .inl ⟨rfl, rfl⟩⟩, by simp [Value.ownBlock]⟩
  have o2 : Only (fun _ => False) w1 W2 := by rw [hW2]; exact (Only.refl _ w1).alloc _
  have HI : Hid (Calls Tryz.prog 18 #[.pointer (some ⟨b, 0, none⟩), .slice (some ⟨g, 0, none⟩) 1 1] W2 fun e w' => e = .returned (.tuple #[]) ∧ Hid (WrU b b (strCells t) true w' ∧ Only (fun k => b ≤ k) W2 w')) := witemsV hv b b g W2 (HTx.out.frame (O1.out.trans o2 (fun _ _ g => g))) A2 (by rw [hW2]; simp; omega) ((O1.out.trans o2 (fun _ _ g => g)).cell HG.out (fun h => h))
  have H2 : Hid (Only (fun _ => False) w W2 ∧ w.heap.size ≤ b) := ⟨O1.out.trans o2 (fun _ _ g => g), by rw [hb]; exact O1.out.size⟩
  clear HS o1 A2 o2 O1 HG
  go_wp2_with fail
  rw [← hb, ← hW2]
  refine (show Calls Tryz.prog 18 _ _ _ from HI.out).mono ?_
  rintro e w3 ⟨rfl, g3⟩
  have HW : Hid (Calls Tryz.prog 19 #[.pointer (some ⟨b, 0, none⟩)] w3 fun e w' => e = .returned (.tuple #[.string t, .int .i64 0]) ∧ Below b w3 w') := by
    have hne : t.data.toList ≠ [] := fun e => by
      have h4 : t.data.toList.length = 0 := by rw [e]; rfl
      rw [Array.length_toList] at h4
      have h2 : t.data.size = t.size := rfl
      have h3 := HZ.out.1
      omega
    have := wwhole_any b b t.data.toList true w3 (by rw [byteCells_str]; exact g3.out.1) hne (by rw [Array.length_toList]; exact HZ.out.2)
    rwa [show (⟨t.data.toList.toArray⟩ : ByteArray) = t from rfl] at this
  have O3 : Hid (Only (fun _ => False) w w3) := H2.out.1.trans g3.out.2 (fun k hk e => by have := H2.out.2; omega)
  clear HI g3 hW2 hb
  go_wp2_with fail
  refine (show Calls Tryz.prog 19 _ _ _ from HW.out).mono ?_
  rintro e w4 ⟨rfl, b4⟩
  have O4 : Hid (Only (fun _ => False) w w4) := O3.out.trans (⟨b4.os, b4.tape, b4.output, b4.size, fun k hk hn => b4.block k (by omega)⟩ : Only (fun k => b ≤ k) w3 w4) (fun k hk e => by have := H2.out.2; omega)
  clear HW b4 O3
  go_wp2
  go_ret2
  exact ⟨rfl, O4.out⟩
end Go.Proofs.YtmpfbjmaiddigaaGreatDoor
namespace Go.Proofs.YtmpfbjmaiddigaaGreatDoor
open Go.RowKit Go.Lib
set_option linter.unusedSimpArgs false
set_option linter.unusedVariables false
/-- the word of a value without parts; the words of a value, of an item -/
def lfT (t : Vt) : ByteArray := if t.k = 1 then ⟨(Lib.itoa t.n).toArray⟩ else if t.k = 2 then (quoR t.s).1 else flT (t.n != 0)
def wdL : Nat → Bool → Vt → List ByteArray
  | 0, _, _ => []
  | d + 1, true, t => if t.k = 7 then [t.s] else wdL d false t
  | d + 1, false, t => if t.k = 4 then ⟨#[123]⟩ :: (t.l.flatMap (wdL d false) ++ [⟨#[125]⟩]) else if t.k = 5 then ⟨#[91]⟩ :: (t.l.flatMap (wdL d true) ++ [⟨#[93]⟩]) else if t.k = 6 then [⟨#[98, 111, 120]⟩] else [lfT t]
/-- a row of texts of one's own since block B -/
def WdAt (w : World) (B : Nat) (v : Value) (ws : List ByteArray) : Prop := w.ownsRow B 9 1 v ws.length (ws.map Value.string)
theorem wd_nil (w : World) (B : Nat) : WdAt w B (.slice none 0 0) [] := ⟨rfl, .inl ⟨rfl, rfl⟩⟩
theorem WdAt.form {w : World} {B : Nat} {v : Value} {ws : List ByteArray} (h : WdAt w B v ws) : ∃ ao cap, v = .slice ao ws.length cap := by
  rcases h.2 with ⟨h1, h2⟩ | ⟨g, cap, cur, h1, _⟩
  · exact ⟨_, _, by rw [h1, h2]⟩
  · exact ⟨_, _, h1⟩
theorem WdAt.only {w w' : World} {B : Nat} {v : Value} {ws : List ByteArray} {bs : Nat → Prop} (h : WdAt w B v ws) (o : Only bs w w') (hb : ∀ b, B ≤ b → b < w.heap.size → ¬ bs b) : WdAt w' B v ws := o.owns h (fun k hk => hb k (h.lt k hk).1 (h.lt k hk).2)
theorem wdinfo : (Tryz.prog.info? 9).map (fun i => (i.zero, i.size, i.bytes)) = some (some (.string ⟨#[]⟩), 1, 16) := by kernel_rfl
/-- what addWords, addItemWords answer -/
def AwC (d F : Nat) (i : Bool) : Prop := ∀ (t : Vt) (v : Value) (w0 : World) (S : Nat → Prop), TiAt w0 S d i t v → okV d i t = true → (∃ e, SmT e t) → Tx w0 → ∀ (w : World) (ao : Option Addr) (n cap : Nat) (ws : List ByteArray), Only (fun _ => False) w0 w → WdAt w w0.heap.size (.slice ao n cap) ws → ws.length + (wdL d i t).length ≤ 1000000 →
  Calls Tryz.prog F #[.slice ao n cap, v] w fun e w' => ∃ ao' n' cap', e = .returned (.slice ao' n' cap') ∧ Hid (WdAt w' w0.heap.size (.slice ao' n' cap') (ws ++ wdL d i t) ∧ Only (fun _ => False) w0 w')
end Go.Proofs.YtmpfbjmaiddigaaGreatDoor
namespace Go.Proofs.YtmpfbjmaiddigaaGreatDoor
open Go.RowKit Go.Lib
set_option linter.unusedSimpArgs false
set_option linter.unusedVariables false
theorem quoR_ok {s : ByteArray} (h1 : s.size ≤ 4096) (h2 : vlB s = true) : (quoR s).1 = tx ([34] ++ quo (rns s) ++ [34]) := by
  unfold quoR
  rw [if_neg ((vl_st s).1 h2), if_neg (by omega)]
theorem enL_quo_len : ∀ (l : List Nat), (enL (quo l)).length ≤ 8 * l.length
  | [] => by simp [quo, enL]
  | c :: l => by
    have h1 := enL_quo_len l
    have h2 := quC_len c
    rw [show quo (c :: l) = quC c ++ quo l from rfl, enL_app, List.length_append, List.length_cons]
    omega
theorem rns_len (s : ByteArray) : (rns s).length ≤ s.size := by
  have := crs_len s s.size 0 (Nat.zero_le _)
  have e : (rns s).length = (crs s s.size 0).length := by unfold rns; simp [chs]
  omega
theorem quo_sizes {s : ByteArray} (h1 : s.size ≤ 4096) (h2 : vlB s = true) : 0 < (quoR s).1.size ∧ (quoR s).1.size ≤ 65536 := by
  rw [quoR_ok h1 h2, tx_size]
  unfold wl
  rw [enL_app, enL_app, List.length_append, List.length_append]
  have e : (enL [34]).length = 1 := rfl
  have := enL_quo_len (rns s)
  have := rns_len s
  rw [e]
  omega
theorem itoa_sizes {n : Int} (h0 : -9223372036854775808 ≤ n) (h1 : n ≤ 9223372036854775807) : 0 < (⟨(Lib.itoa n).toArray⟩ : ByteArray).size ∧ (⟨(Lib.itoa n).toArray⟩ : ByteArray).size ≤ 65536 := by
  have h2 := Lib.itoa_length_le n h0 h1
  have e : (⟨(Lib.itoa n).toArray⟩ : ByteArray).size = (Lib.itoa n).length := by
    show (Lib.itoa n).toArray.size = _
    simp
  rw [e]
  refine ⟨?_, by omega⟩
  unfold Lib.itoa
  split
  · simp
  · have := Lib.decDigits_length n.toNat
    have := Lib.nDigits_pos n.toNat
    omega
/-- the text of a value -/
def txtV (d : Nat) (t : Vt) : ByteArray := ⟨(Lib.join ((wdL d false t).map (·.data.toList)) [32]).toArray⟩
theorem wdL_ne : ∀ (d : Nat) (t : Vt), wdL (d + 1) false t ≠ [] := by
  intro d t
  unfold wdL
  split
  · simp
  split
  · simp
  split
  · simp
  · simp
end Go.Proofs.YtmpfbjmaiddigaaGreatDoor
namespace Go.Proofs.YtmpfbjmaiddigaaGreatDoor
open Go.RowKit Go.Lib
set_option linter.unusedSimpArgs false
set_option linter.unusedVariables false
/-- what the writer leaves: itself under way, all of w0 as it was -/
def WwP (w0 : World) (X : Nat → Prop) (b : Nat) (w : World) (e : Ending) (w' : World) : Prop := e = .returned (.tuple #[]) ∧ Hid ((∃ bg, WuG w0.heap.size b X bg w') ∧ Only (fun k => w0.heap.size ≤ k ∧ ¬ X k) w w')
theorem WwP.after {w0 w w1 : World} {X : Nat → Prop} {b : Nat} {e : Ending} {w' : World} (h : WwP w0 X b w1 e w') (o : Only (fun _ => False) w w1) : WwP w0 X b w e w' := ⟨h.1, h.2.out.1, (o.mono (fun _ _ g => g.elim)).trans h.2.out.2 (fun _ _ g => g)⟩
theorem ww_word {w0 w : World} {X : Nat → Prop} {b : Nat} {bg : Bool} (s : ByteArray) (o : Only (fun _ => False) w0 w) (h : WuG w0.heap.size b X bg w) (hs : s.size ≤ 66000) : Calls Tryz.prog 51 #[.pointer (some ⟨b, 0, none⟩), .string s] w (WwP w0 X b w) :=
  (wword_all w0.heap.size b X bg s w h hs o.size).mono fun e w' g => ⟨g.1, ⟨true, g.2.out.1⟩, g.2.out.2⟩
theorem wfull_all {B b : Nat} {X : Nat → Prop} {bg : Bool} {w : World} (h : WuG B b X bg w) : ∃ c : Bool, Calls Tryz.prog 34 #[.pointer (some ⟨b, 0, none⟩)] w fun e w' => e = .returned (.bool c) ∧ w' = w := by
  obtain ⟨l, hw, _⟩ := h
  exact ⟨_, wfull_any B b _ bg w hw.u⟩
set_option maxRecDepth 100000 in
theorem ww_flag {w0 w : World} {X : Nat → Prop} {b : Nat} {bg : Bool} (y : Bool) (o : Only (fun _ => False) w0 w) (h : WuG w0.heap.size b X bg w) : Calls Tryz.prog 73 #[.pointer (some ⟨b, 0, none⟩), .bool y] w (WwP w0 X b w) := by
  have HT : Hid _ := ww_word ⟨#[116]⟩ o h (by decide)
  have HF : Hid _ := ww_word ⟨#[102]⟩ o h (by decide)
  clear o h
  cases y with
  | true =>
    go_enter Tryz.func73, Tryz.ntmps73
    go_wp2_with fail
    refine (show Calls Tryz.prog 51 _ _ _ from HT.out).mono ?_
    rintro e w1 ⟨rfl, g1⟩
    clear HT HF
    go_wp2
    go_end0
    exact ⟨rfl, g1⟩
  | false =>
    go_enter Tryz.func73, Tryz.ntmps73
    go_wp2_with fail
    refine (show Calls Tryz.prog 51 _ _ _ from HF.out).mono ?_
    rintro e w1 ⟨rfl, g1⟩
    clear HT HF
    go_wp2
    go_end0
    exact ⟨rfl, g1⟩
set_option maxRecDepth 100000 in
/-- the writer is full: nothing is done -/
theorem ww_full {w0 w : World} {X : Nat → Prop} {b : Nat} {bg : Bool} (v : Value) (o : Only (fun _ => False) w0 w) (h : WuG w0.heap.size b X bg w) (HF0 : Calls Tryz.prog 34 #[.pointer (some ⟨b, 0, none⟩)] w fun e w' => e = .returned (.bool true) ∧ w' = w) : Calls Tryz.prog 50 #[.pointer (some ⟨b, 0, none⟩), v] w (WwP w0 X b w) := by
  have HF : Hid _ := HF0
  have HG : Hid ((∃ bg, WuG w0.heap.size b X bg w) ∧ Only (fun k => w0.heap.size ≤ k ∧ ¬ X k) w w) := ⟨⟨bg, h⟩, Only.refl _ _⟩
  clear HF0 o h
  go_enter Tryz.func50, Tryz.ntmps50
  go_wp2_with fail
  refine (show Calls Tryz.prog 34 _ _ _ from HF.out).mono ?_
  rintro e w1 ⟨rfl, hw⟩
  obtain rfl : w = w1 := hw.symm
  clear HF hw
  go_wp2
  go_end0
  exact ⟨rfl, HG⟩
set_option maxRecDepth 100000 in
set_option maxHeartbeats 4000000 in
theorem ww_int {w0 w : World} {X : Nat → Prop} {b : Nat} {bg : Bool} (n : Int) (h0 : -9223372036854775808 ≤ n) (h1 : n ≤ 9223372036854775807) (o : Only (fun _ => False) w0 w) (h : WuG w0.heap.size b X bg w) (hT : Tx w0) (HF0 : Calls Tryz.prog 34 #[.pointer (some ⟨b, 0, none⟩)] w fun e w' => e = .returned (.bool false) ∧ w' = w) : Calls Tryz.prog 50 #[.pointer (some ⟨b, 0, none⟩), .iface 88 (.agg #[.int .i64 n])] w (WwP w0 X b w) := by
  have HF : Hid _ := HF0
  obtain ⟨T, hTt⟩ : ∃ T : ByteArray, T = ⟨(Lib.itoa n).toArray⟩ := ⟨_, rfl⟩
  have HI : Hid (∀ w1, Only (fun _ => False) w w1 → Calls Tryz.prog 71 #[.int .i64 n, .int .i64 10] w1 fun e w' => e = .returned (.string T) ∧ Only (fun _ => False) w1 w') := fun w1 o1 => by
    rw [hTt]
    exact fmt_any n h0 h1 w1 ((hT.frame o).frame o1).2
  have HW : Hid (∀ w1, Only (fun _ => False) w w1 → Calls Tryz.prog 51 #[.pointer (some ⟨b, 0, none⟩), .string T] w1 (WwP w0 X b w1)) := fun w1 o1 => ww_word T (o.trans o1 (fun _ _ g => g)) (h.only o1) (by have := (itoa_sizes h0 h1).2; rw [hTt]; omega)
  have hInt := va_hit 88 79 _ Tryz.underlying88 (by intro m h; cases h)
  have O0 : Hid (Only (fun _ => False) w w) := Only.refl _ _
  clear HF0 o h hT h0 h1 hTt
  go_enter Tryz.func50, Tryz.ntmps50
  go_wp2_with fail
  refine (show Calls Tryz.prog 34 _ _ _ from HF.out).mono ?_
  rintro e w1 ⟨rfl, hw⟩
  obtain rfl : w = w1 := hw.symm
  clear HF hw
  go_wp2_with fail
  refine (show Calls Tryz.prog 71 _ _ _ from HI.out _ (by repeat' first | exact O0.out | apply Only.alloc)).mono ?_
  rintro e w2 ⟨rfl, o2⟩
  have O2 : Hid (Only (fun _ => False) w w2) := Only.trans (by repeat' first | exact O0.out | apply Only.alloc) o2 (fun _ _ g => g)
  clear HI o2
  go_wp2_with fail
  refine (show Calls Tryz.prog 51 _ _ _ from HW.out _ O2.out).mono ?_
  rintro e w3 ⟨rfl, g3⟩
  clear HW
  go_wp2
  go_end0
  exact WwP.after ⟨rfl, g3⟩ O2.out
set_option maxRecDepth 100000 in
set_option maxHeartbeats 4000000 in
theorem ww_str {w0 w : World} {X : Nat → Prop} {b : Nat} {bg : Bool} (s : ByteArray) (h1 : s.size ≤ 4096) (h2 : vlB s = true) (o : Only (fun _ => False) w0 w) (h : WuG w0.heap.size b X bg w) (HF0 : Calls Tryz.prog 34 #[.pointer (some ⟨b, 0, none⟩)] w fun e w' => e = .returned (.bool false) ∧ w' = w) : Calls Tryz.prog 50 #[.pointer (some ⟨b, 0, none⟩), .iface 118 (.agg #[.string s])] w (WwP w0 X b w) := by
  have HF : Hid _ := HF0
  obtain ⟨T, hTt⟩ : ∃ T, T = (quoR s).1 := ⟨_, rfl⟩
  obtain ⟨E, hE⟩ : ∃ T, T = (quoR s).2 := ⟨_, rfl⟩
  have HI : Hid (∀ w1, Calls Tryz.prog 72 #[.string s] w1 fun e w' => e = .returned (.tuple #[.string T, .int .i64 E]) ∧ Only (fun _ => False) w1 w') := fun w1 => by
    rw [hTt, hE]
    exact (quoted_any s (by omega) w1).mono fun e w' g => ⟨g.1, ⟨g.2.out.os, g.2.out.tape, g.2.out.output, g.2.out.size, fun k hk _ => g.2.out.block k hk⟩⟩
  have HW : Hid (∀ w1, Only (fun _ => False) w w1 → Calls Tryz.prog 51 #[.pointer (some ⟨b, 0, none⟩), .string T] w1 (WwP w0 X b w1)) := fun w1 o1 => ww_word T (o.trans o1 (fun _ _ g => g)) (h.only o1) (by have := (quo_sizes h1 h2).2; rw [hTt]; omega)
  have hInt := va_miss 118 88 79 _ Tryz.underlying88 (by intro m h; cases h) (by decide) _ zI
  have hStr := va_hit 118 79 _ Tryz.underlying118 (by intro m h; cases h)
  have O0 : Hid (Only (fun _ => False) w w) := Only.refl _ _
  clear HF0 o h h1 h2 hTt hE
  go_enter Tryz.func50, Tryz.ntmps50
  go_wp2_with fail
  refine (show Calls Tryz.prog 34 _ _ _ from HF.out).mono ?_
  rintro e w1 ⟨rfl, hw⟩
  obtain rfl : w = w1 := hw.symm
  clear HF hw
  go_wp2_with fail
  refine (show Calls Tryz.prog 72 _ _ _ from HI.out _).mono ?_
  rintro e w2 ⟨rfl, o2⟩
  have O2 : Hid (Only (fun _ => False) w w2) := Only.trans (by repeat' first | exact O0.out | apply Only.alloc) o2 (fun _ _ g => g)
  clear HI o2
  go_wp2_with fail
  refine (show Calls Tryz.prog 51 _ _ _ from HW.out _ O2.out).mono ?_
  rintro e w3 ⟨rfl, g3⟩
  clear HW
  go_wp2
  go_end0
  exact WwP.after ⟨rfl, g3⟩ O2.out
set_option maxRecDepth 100000 in
set_option maxHeartbeats 4000000 in
theorem ww_bool {w0 w : World} {X : Nat → Prop} {b : Nat} {bg : Bool} (y : Bool) (o : Only (fun _ => False) w0 w) (h : WuG w0.heap.size b X bg w) (HF0 : Calls Tryz.prog 34 #[.pointer (some ⟨b, 0, none⟩)] w fun e w' => e = .returned (.bool false) ∧ w' = w) : Calls Tryz.prog 50 #[.pointer (some ⟨b, 0, none⟩), .iface 120 (.agg #[.bool y])] w (WwP w0 X b w) := by
  have HF : Hid _ := HF0
  have HW : Hid (∀ w1, Only (fun _ => False) w w1 → Calls Tryz.prog 73 #[.pointer (some ⟨b, 0, none⟩), .bool y] w1 (WwP w0 X b w1)) := fun w1 o1 => ww_flag y (o.trans o1 (fun _ _ g => g)) (h.only o1)
  have hInt := va_miss 120 88 79 _ Tryz.underlying88 (by intro m h; cases h) (by decide) _ zI
  have hStr := va_miss 120 118 79 _ Tryz.underlying118 (by intro m h; cases h) (by decide) _ zS
  have hBl := va_hit 120 79 _ Tryz.underlying120 (by intro m h; cases h)
  have O0 : Hid (Only (fun _ => False) w w) := Only.refl _ _
  clear HF0 o h
  go_enter Tryz.func50, Tryz.ntmps50
  go_wp2_with fail
  refine (show Calls Tryz.prog 34 _ _ _ from HF.out).mono ?_
  rintro e w1 ⟨rfl, hw⟩
  obtain rfl : w = w1 := hw.symm
  clear HF hw
  go_wp2_with fail
  refine (show Calls Tryz.prog 73 _ _ _ from HW.out _ (by repeat' first | exact O0.out | apply Only.alloc)).mono ?_
  rintro e w2 ⟨rfl, g3⟩
  clear HW
  go_wp2
  go_end0
  exact WwP.after ⟨rfl, g3⟩ (by repeat' first | exact O0.out | apply Only.alloc)
end Go.Proofs.YtmpfbjmaiddigaaGreatDoor
namespace Go.Proofs.YtmpfbjmaiddigaaGreatDoor
open Go.RowKit Go.Lib
set_option linter.unusedSimpArgs false
set_option linter.unusedVariables false
/-- what the writer does of a sound value or item in w0's memory -/
def WwC (d : Nat) (i : Bool) (F : Nat) : Prop := ∀ (t : Vt) (v : Value) (w0 : World) (S : Nat → Prop) (b : Nat) (X : Nat → Prop) (bg : Bool) (w : World), TiAt w0 S d i t v → okP d i t = true → (∃ e, SmT e t) → Tx w0 → Only (fun _ => False) w0 w → WuG w0.heap.size b X bg w → Calls Tryz.prog F #[.pointer (some ⟨b, 0, none⟩), v] w (WwP w0 X b w)
theorem WuG.more {B b c : Nat} {X : Nat → Prop} {bg : Bool} {w w1 : World} (h : WuG B b X bg w) (o : Only (fun _ => False) w w1) (hc : w.heap.size ≤ c) (hc1 : ∃ cs T z, w1.heap[c]? = some (.cells cs T z) ∧ T ≠ 5) : WuG B b (fun k => X k ∨ k = c) bg w1 := by
  obtain ⟨l, h1, h2⟩ := h
  exact ⟨l, h1.more o hc hc1, h2⟩
theorem WwP.less {w0 w : World} {X Y : Nat → Prop} {b : Nat} {e : Ending} {w' : World} (h : WwP w0 X b w e w') (hY : ∀ k, Y k → X k) : WwP w0 Y b w e w' := by
  obtain ⟨bg, l, h1, h2⟩ := h.2.out.1
  exact ⟨h.1, ⟨bg, l, h1.less hY, h2⟩, h.2.out.2.mono (fun k _ g => ⟨g.1, fun gy => g.2 (hY k gy)⟩)⟩
set_option maxRecDepth 100000 in
set_option maxHeartbeats 4000000 in
theorem ww_items (d : Nat) (H : WwC d true 33) (l : List Vt) (ao : Option Addr) (cap : Nat) (w0 : World) (S : Nat → Prop) (hl : ∀ (j : Nat) (x : Vt), l[j]? = some x → ∃ g q u, ao = some ⟨g, q, none⟩ ∧ S g ∧ w0.cell? ⟨g, q + j, none⟩ = some u ∧ TiAt w0 S d true x u) (hok : ∀ x ∈ l, okP d true x = true) (hsm : ∀ x ∈ l, ∃ e, SmT e x) (hlen : l.length ≤ 2513169434900) (hT : Tx w0) (b : Nat) (X : Nat → Prop) (bg : Bool) (w : World) (o : Only (fun _ => False) w0 w) (hw : WuG w0.heap.size b X bg w) :
    Calls Tryz.prog 18 #[.pointer (some ⟨b, 0, none⟩), .slice ao l.length cap] w (WwP w0 X b w) := by
  have HE : Hid (∀ (j : Nat) (x : Vt), l[j]? = some x → ∃ g q u, ao = some ⟨g, q, none⟩ ∧ (u = .nilIface ∨ ∃ T y, u = .iface T y) ∧ w0.cell? ⟨g, q + j, none⟩ = some u ∧ ∀ bg1 w1, Only (fun _ => False) w0 w1 → WuG w0.heap.size b X bg1 w1 → Calls Tryz.prog 33 #[.pointer (some ⟨b, 0, none⟩), u] w1 (WwP w0 X b w1)) := fun j x hx => by
    obtain ⟨g, q, u, p1, p2, p3, p4⟩ := hl j x hx
    exact ⟨g, q, u, p1, p4.shape2, p3, fun bg1 w1 o1 h1 => H x u w0 S b X bg1 w1 p4 (hok x (List.mem_of_getElem? hx)) (hsm x (List.mem_of_getElem? hx)) hT o1 h1⟩
  obtain ⟨N, hN⟩ : ∃ N, N = l.length := ⟨_, rfl⟩
  have HN : Hid (N = l.length ∧ N ≤ 2513169434900) := ⟨hN, by omega⟩
  have HO : Hid (Only (fun _ => False) w0 w) := o
  have HG : Hid ((∃ bg, WuG w0.heap.size b X bg w) ∧ Only (fun k => w0.heap.size ≤ k ∧ ¬ X k) w w) := ⟨⟨bg, hw⟩, Only.refl _ _⟩
  rw [← hN]
  clear hl hok hsm hlen hT hw o hN H
  go_enter Tryz.func18, Tryz.ntmps18
  go_wp2
  go_loopw [8] (fun r wr => ∃ j : Nat, r = .int .i64 (j : Int) ∧ j ≤ N ∧ Hid ((∃ bg, WuG w0.heap.size b X bg wr) ∧ Only (fun k => w0.heap.size ≤ k ∧ ¬ X k) w wr)) (fun r _ => N - vuOf r)
  case atStart => exact ⟨0, rfl, Nat.zero_le _, HG⟩
  case round =>
    obtain ⟨j, rfl, hj, HI⟩ := hrel
    obtain ⟨w1, hw1⟩ : ∃ w1, w1 = wr := ⟨_, rfl⟩
    rw [← hw1] at HI ⊢
    clear hw1
    have hNl := HN.out.1
    by_cases hjN : j < N
    · obtain ⟨x, hx⟩ : ∃ x, l[j]? = some x := ⟨l[j]'(by omega), List.getElem?_eq_getElem (by omega)⟩
      obtain ⟨g, q, u, rfl, hsh, c0, hcall⟩ := HE.out j x hx
      have ow : Only (fun _ => False) w0 w1 := HO.out.trans HI.out.2 (fun k hk g => by have := g.1; omega)
      have c1 := ow.cell c0 (fun g => g)
      obtain ⟨bg1, hb1⟩ := HI.out.1
      have HC : Hid _ := hcall bg1 w1 ow hb1
      have HJ : Hid (j < N ∧ Only (fun k => w0.heap.size ≤ k ∧ ¬ X k) w w1) := ⟨hjN, HI.out.2⟩
      have i1 : (j : Int) < (N : Int) := by omega
      have i0 : (0 : Int) ≤ (j : Int) := by omega
      have i4 : j ≤ 2513169434900 := by have := HN.out.2; omega
      clear hcall c0 hx hNl hjN hj HI HE hb1 ow
      rcases hsh with rfl | ⟨T, y, rfl⟩
      all_goals
        go_wp2_with fail
        refine (show Calls Tryz.prog 33 _ _ _ from HC.out).mono ?_
        rintro e w2 ⟨rfl, g2⟩
        have HR : Hid ((∃ bg, WuG w0.heap.size b X bg w2) ∧ Only (fun k => w0.heap.size ≤ k ∧ ¬ X k) w w2) := ⟨g2.out.1, HJ.out.2.trans g2.out.2 (fun _ _ g => g)⟩
        clear HC c1 g2
        go_wp2
        go_roundw
        case rel => exact ⟨j + 1, by go_num, by have := HJ.out.1; omega, HR⟩
        case measure => simp only [vuOf]; have := HJ.out.1; omega
    · obtain rfl : j = N := by omega
      have i1 : ¬ (j : Int) < (j : Int) := by omega
      have HF : Hid _ := HI.out
      clear HI hNl hjN hj HE
      go_wp2
      go_end0
      exact ⟨rfl, HF.out⟩
set_option maxRecDepth 100000 in
set_option maxHeartbeats 4000000 in
theorem ww_quot {w0 w : World} {X : Nat → Prop} {b : Nat} {bg : Bool} (ao : Option Addr) (n cap : Nat) (o : Only (fun _ => False) w0 w) (h : WuG w0.heap.size b X bg w) (HF0 : Calls Tryz.prog 34 #[.pointer (some ⟨b, 0, none⟩)] w fun e w' => e = .returned (.bool false) ∧ w' = w) (HI0 : ∀ Y bg1 w1, Only (fun _ => False) w0 w1 → WuG w0.heap.size b Y bg1 w1 → Calls Tryz.prog 18 #[.pointer (some ⟨b, 0, none⟩), .slice ao n cap] w1 (WwP w0 Y b w1)) : Calls Tryz.prog 50 #[.pointer (some ⟨b, 0, none⟩), .iface 90 (.agg #[.slice ao n cap])] w (WwP w0 X b w) := by
  have HF : Hid _ := HF0
  obtain ⟨Y, hY⟩ : ∃ Y : Nat → Prop, Y = fun k => X k ∨ k = w.heap.size := ⟨_, rfl⟩
  have HY : Hid (Y = fun k => X k ∨ k = w.heap.size) := hY
  have HIt : Hid _ := HI0 Y
  have HW : Hid (∀ (s : ByteArray) bg1 w1, Only (fun _ => False) w0 w1 → WuG w0.heap.size b Y bg1 w1 → s.size ≤ 66000 → Calls Tryz.prog 51 #[.pointer (some ⟨b, 0, none⟩), .string s] w1 (WwP w0 Y b w1)) := fun s bg1 w1 o1 h1 hs => ww_word s o1 h1 hs
  have hInt := va_miss 90 88 79 _ Tryz.underlying88 (by intro m h; cases h) (by decide) _ zI
  have hStr := va_miss 90 118 79 _ Tryz.underlying118 (by intro m h; cases h) (by decide) _ zS
  have hBl := va_miss 90 120 79 _ Tryz.underlying120 (by intro m h; cases h) (by decide) _ zBo
  have hLi := va_miss 90 85 79 _ Tryz.underlying85 (by intro m h; cases h) (by decide) _ zL
  have hQu := va_hit 90 79 _ Tryz.underlying90 (by intro m h; cases h)
  have HG : Hid (Only (fun _ => False) w0 w ∧ WuG w0.heap.size b X bg w) := ⟨o, h⟩
  have O0 : Hid (Only (fun _ => False) w w) := Only.refl _ _
  clear HF0 HI0 o h hY
  go_enter Tryz.func50, Tryz.ntmps50
  go_wp2_with fail
  refine (show Calls Tryz.prog 34 _ _ _ from HF.out).mono ?_
  rintro e w1 ⟨rfl, hw⟩
  obtain rfl : w = w1 := hw.symm
  clear HF hw
  go_wp2_with fail
  obtain ⟨wB, hwB⟩ : ∃ x, x = w.alloc (.cells #[.slice ao n cap] 90) := ⟨_, rfl⟩
  rw [← hwB]
  have OB : Only (fun _ => False) w wB := by rw [hwB]; exact O0.out.alloc _
  have RB : wB.heap[w.heap.size]? = some (.cells #[.slice ao n cap] 90) := by rw [hwB]; exact va_at _ _ _ rfl
  have HB : Hid (Only (fun _ => False) w0 wB ∧ WuG w0.heap.size b Y bg wB ∧ Only (fun _ => False) w wB ∧ wB.cell? ⟨w.heap.size, 0, none⟩ = some (.slice ao n cap)) := by
    refine ⟨HG.out.1.trans OB (fun _ _ g => g), ?_, OB, vblk_cells RB 0⟩
    rw [HY.out]
    exact HG.out.2.more OB (Nat.le_refl _) ⟨_, _, _, RB, by decide⟩
  clear hwB OB RB
  refine (show Calls Tryz.prog 51 _ _ _ from HW.out _ _ _ HB.out.1 HB.out.2.1 (by decide)).mono ?_
  rintro e w2 ⟨rfl, g2⟩
  obtain ⟨bg2, hb2⟩ := g2.out.1
  have H2 : Hid (Only (fun _ => False) w0 w2 ∧ WuG w0.heap.size b Y bg2 w2 ∧ Only (fun k => w0.heap.size ≤ k ∧ ¬ Y k) wB w2) := ⟨HB.out.1.trans g2.out.2 (fun k hk g => by have := g.1; omega), hb2, g2.out.2⟩
  have c2 : w2.cell? ⟨w.heap.size, 0, none⟩ = some (.slice ao n cap) := g2.out.2.cell HB.out.2.2.2 (fun g => g.2 (by rw [HY.out]; exact .inr rfl))
  clear g2 hb2
  go_wp2_with fail
  refine (show Calls Tryz.prog 18 _ _ _ from HIt.out _ _ H2.out.1 H2.out.2.1).mono ?_
  rintro e w3 ⟨rfl, g3⟩
  obtain ⟨bg3, hb3⟩ := g3.out.1
  have H3 : Hid (Only (fun _ => False) w0 w3 ∧ WuG w0.heap.size b Y bg3 w3 ∧ Only (fun k => w0.heap.size ≤ k ∧ ¬ Y k) wB w3) := ⟨H2.out.1.trans g3.out.2 (fun k hk g => by have := g.1; omega), hb3, H2.out.2.2.trans g3.out.2 (fun _ _ g => g)⟩
  clear g3 hb3 H2 HIt c2
  go_wp2_with fail
  refine (show Calls Tryz.prog 51 _ _ _ from HW.out _ _ _ H3.out.1 H3.out.2.1 (by decide)).mono ?_
  rintro e w4 ⟨rfl, g4⟩
  have HF : Hid (WwP w0 Y b wB (.returned (.tuple #[])) w4) := ⟨rfl, g4.out.1, H3.out.2.2.trans g4.out.2 (fun _ _ g => g)⟩
  clear g4 H3 HW
  go_wp2
  go_end0
  exact (HF.out.less (fun k hk => by rw [HY.out]; exact .inl hk)).after HB.out.2.2.1
end Go.Proofs.YtmpfbjmaiddigaaGreatDoor
namespace Go.Proofs.YtmpfbjmaiddigaaGreatDoor
open Go.RowKit Go.Lib
set_option linter.unusedSimpArgs false
set_option linter.unusedVariables false
set_option maxRecDepth 100000 in
set_option maxHeartbeats 4000000 in
theorem ww_list (d : Nat) (H : WwC d false 50) {w0 w : World} {X : Nat → Prop} {b : Nat} {bg : Bool} (l : List Vt) (ao : Option Addr) (cap : Nat) (S : Nat → Prop) (hl : ∀ (j : Nat) (x : Vt), l[j]? = some x → ∃ g q u, ao = some ⟨g, q, none⟩ ∧ S g ∧ w0.cell? ⟨g, q + j, none⟩ = some u ∧ TiAt w0 S d false x u) (hok : ∀ x ∈ l, okP d false x = true) (hsm : ∀ x ∈ l, ∃ e, SmT e x) (hlen : l.length ≤ 2513169434900) (hT : Tx w0) (o : Only (fun _ => False) w0 w) (h : WuG w0.heap.size b X bg w) (HF0 : Calls Tryz.prog 34 #[.pointer (some ⟨b, 0, none⟩)] w fun e w' => e = .returned (.bool false) ∧ w' = w) : Calls Tryz.prog 50 #[.pointer (some ⟨b, 0, none⟩), .iface 85 (.agg #[.slice ao l.length cap])] w (WwP w0 X b w) := by
  have HF : Hid _ := HF0
  obtain ⟨Y, hY⟩ : ∃ Y : Nat → Prop, Y = fun k => X k ∨ k = w.heap.size := ⟨_, rfl⟩
  have HY : Hid (Y = fun k => X k ∨ k = w.heap.size) := hY
  have HE : Hid (∀ (j : Nat) (x : Vt), l[j]? = some x → ∃ g q u, ao = some ⟨g, q, none⟩ ∧ (u = .nilIface ∨ ∃ T y, u = .iface T y) ∧ w0.cell? ⟨g, q + j, none⟩ = some u ∧ ∀ bg1 w1, Only (fun _ => False) w0 w1 → WuG w0.heap.size b Y bg1 w1 → Calls Tryz.prog 50 #[.pointer (some ⟨b, 0, none⟩), u] w1 (WwP w0 Y b w1)) := fun j x hx => by
    obtain ⟨g, q, u, p1, p2, p3, p4⟩ := hl j x hx
    exact ⟨g, q, u, p1, p4.shape2, p3, fun bg1 w1 o1 h1 => H x u w0 S b Y bg1 w1 p4 (hok x (List.mem_of_getElem? hx)) (hsm x (List.mem_of_getElem? hx)) hT o1 h1⟩
  obtain ⟨N, hN⟩ : ∃ N, N = l.length := ⟨_, rfl⟩
  have HN : Hid (N = l.length ∧ N ≤ 2513169434900) := ⟨hN, by omega⟩
  rw [← hN]
  have HW : Hid (∀ (s : ByteArray) bg1 w1, Only (fun _ => False) w0 w1 → WuG w0.heap.size b Y bg1 w1 → s.size ≤ 66000 → Calls Tryz.prog 51 #[.pointer (some ⟨b, 0, none⟩), .string s] w1 (WwP w0 Y b w1)) := fun s bg1 w1 o1 h1 hs => ww_word s o1 h1 hs
  have hInt := va_miss 85 88 79 _ Tryz.underlying88 (by intro m h; cases h) (by decide) _ zI
  have hStr := va_miss 85 118 79 _ Tryz.underlying118 (by intro m h; cases h) (by decide) _ zS
  have hBl := va_miss 85 120 79 _ Tryz.underlying120 (by intro m h; cases h) (by decide) _ zBo
  have hLi := va_hit 85 79 _ Tryz.underlying85 (by intro m h; cases h)
  have HG : Hid (Only (fun _ => False) w0 w ∧ WuG w0.heap.size b X bg w) := ⟨o, h⟩
  have O0 : Hid (Only (fun _ => False) w w) := Only.refl _ _
  clear HF0 o h hY hl hok hsm hlen hT hN H
  go_enter Tryz.func50, Tryz.ntmps50
  go_wp2_with fail
  refine (show Calls Tryz.prog 34 _ _ _ from HF.out).mono ?_
  rintro e w1 ⟨rfl, hw⟩
  obtain rfl : w = w1 := hw.symm
  clear HF hw
  go_wp2_with fail
  obtain ⟨wB, hwB⟩ : ∃ x, x = w.alloc (.cells #[.slice ao N cap] 85) := ⟨_, rfl⟩
  rw [← hwB]
  have OB : Only (fun _ => False) w wB := by rw [hwB]; exact O0.out.alloc _
  have RB : wB.heap[w.heap.size]? = some (.cells #[.slice ao N cap] 85) := by rw [hwB]; exact va_at _ _ _ rfl
  have HB : Hid (Only (fun _ => False) w0 wB ∧ WuG w0.heap.size b Y bg wB ∧ Only (fun _ => False) w wB ∧ wB.cell? ⟨w.heap.size, 0, none⟩ = some (.slice ao N cap)) := by
    refine ⟨HG.out.1.trans OB (fun _ _ g => g), ?_, OB, vblk_cells RB 0⟩
    rw [HY.out]
    exact HG.out.2.more OB (Nat.le_refl _) ⟨_, _, _, RB, by decide⟩
  clear hwB OB RB
  refine (show Calls Tryz.prog 51 _ _ _ from HW.out _ _ _ HB.out.1 HB.out.2.1 (by decide)).mono ?_
  rintro e w2 ⟨rfl, g2⟩
  obtain ⟨bg2, hb2⟩ := g2.out.1
  have H2 : Hid (Only (fun _ => False) w0 w2 ∧ WuG w0.heap.size b Y bg2 w2 ∧ Only (fun k => w0.heap.size ≤ k ∧ ¬ Y k) wB w2) := ⟨HB.out.1.trans g2.out.2 (fun k hk g => by have := g.1; omega), hb2, g2.out.2⟩
  have c2 : w2.cell? ⟨w.heap.size, 0, none⟩ = some (.slice ao N cap) := g2.out.2.cell HB.out.2.2.2 (fun g => g.2 (by rw [HY.out]; exact .inr rfl))
  clear g2 hb2
  have HO : Hid (Only (fun _ => False) w0 w2) := H2.out.1
  have HG2 : Hid ((∃ bg, WuG w0.heap.size b Y bg w2) ∧ Only (fun k => w0.heap.size ≤ k ∧ ¬ Y k) w2 w2) := ⟨⟨bg2, H2.out.2.1⟩, Only.refl _ _⟩
  go_wp2
  go_loopw [51] (fun r wr => ∃ j : Nat, r = .int .i64 (j : Int) ∧ j ≤ N ∧ Hid ((∃ bg, WuG w0.heap.size b Y bg wr) ∧ Only (fun k => w0.heap.size ≤ k ∧ ¬ Y k) w2 wr)) (fun r _ => N - vuOf r)
  case atStart => exact ⟨0, rfl, Nat.zero_le _, HG2⟩
  case round =>
    obtain ⟨j, rfl, hj, HI⟩ := hrel
    obtain ⟨w1, hw1⟩ : ∃ w1, w1 = wr := ⟨_, rfl⟩
    rw [← hw1] at HI ⊢
    clear hw1
    have hNl := HN.out.1
    by_cases hjN : j < N
    · obtain ⟨x, hx⟩ : ∃ x, l[j]? = some x := ⟨l[j]'(by omega), List.getElem?_eq_getElem (by omega)⟩
      obtain ⟨g, q, u, rfl, hsh, c0, hcall⟩ := HE.out j x hx
      have ow : Only (fun _ => False) w0 w1 := HO.out.trans HI.out.2 (fun k hk g => by have := g.1; omega)
      have c1 := ow.cell c0 (fun g => g)
      obtain ⟨bg1, hb1⟩ := HI.out.1
      have HC : Hid _ := hcall bg1 w1 ow hb1
      have HJ : Hid (j < N ∧ Only (fun k => w0.heap.size ≤ k ∧ ¬ Y k) w2 w1) := ⟨hjN, HI.out.2⟩
      have i1 : (j : Int) < (N : Int) := by omega
      have i0 : (0 : Int) ≤ (j : Int) := by omega
      have i4 : j ≤ 2513169434900 := by have := HN.out.2; omega
      clear hcall c0 hx hNl hjN hj HI HE hb1 ow
      rcases hsh with rfl | ⟨T, y, rfl⟩
      all_goals
        go_wp2_with fail
        refine (show Calls Tryz.prog 50 _ _ _ from HC.out).mono ?_
        rintro e w3 ⟨rfl, g2⟩
        have HR : Hid ((∃ bg, WuG w0.heap.size b Y bg w3) ∧ Only (fun k => w0.heap.size ≤ k ∧ ¬ Y k) w2 w3) := ⟨g2.out.1, HJ.out.2.trans g2.out.2 (fun _ _ g => g)⟩
        clear HC c1 g2
        go_wp2
        go_roundw
        case rel => exact ⟨j + 1, by go_num, by have := HJ.out.1; omega, HR⟩
        case measure => simp only [vuOf]; have := HJ.out.1; omega
    · obtain rfl : j = N := by omega
      have i1 : ¬ (j : Int) < (j : Int) := by omega
      have H3 : Hid (Only (fun _ => False) w0 w1 ∧ (∃ bg, WuG w0.heap.size b Y bg w1) ∧ Only (fun k => w0.heap.size ≤ k ∧ ¬ Y k) wB w1) := ⟨HO.out.trans HI.out.2 (fun k hk g => by have := g.1; omega), HI.out.1, H2.out.2.2.trans HI.out.2 (fun _ _ g => g)⟩
      obtain ⟨bg3, hb3⟩ := H3.out.2.1
      have HB3 : Hid (WuG w0.heap.size b Y bg3 w1) := hb3
      clear HI hNl hjN hj HE hb3 HO H2
      go_wp2_with fail
      refine (show Calls Tryz.prog 51 _ _ _ from HW.out _ _ _ H3.out.1 HB3.out (by decide)).mono ?_
      rintro e w4 ⟨rfl, g4⟩
      have HF : Hid (WwP w0 Y b wB (.returned (.tuple #[])) w4) := ⟨rfl, g4.out.1, H3.out.2.2.trans g4.out.2 (fun _ _ g => g)⟩
      clear g4 H3 HW HB3
      go_wp2
      go_end0
      exact (HF.out.less (fun k hk => by rw [HY.out]; exact .inl hk)).after HB.out.2.2.1
set_option maxRecDepth 100000 in
set_option maxHeartbeats 4000000 in
theorem wi_push {w0 w : World} {X : Nat → Prop} {b : Nat} {bg : Bool} (u : Value) (hu : u = .nilIface ∨ ∃ T y, u = .iface T y) (o : Only (fun _ => False) w0 w) (h : WuG w0.heap.size b X bg w) (HV0 : ∀ w1, Only (fun _ => False) w0 w1 → WuG w0.heap.size b X bg w1 → Calls Tryz.prog 50 #[.pointer (some ⟨b, 0, none⟩), u] w1 (WwP w0 X b w1)) : Calls Tryz.prog 33 #[.pointer (some ⟨b, 0, none⟩), .iface 81 (.agg #[u])] w (WwP w0 X b w) := by
  have HV : Hid (∀ w1, Only (fun _ => False) w w1 → Calls Tryz.prog 50 #[.pointer (some ⟨b, 0, none⟩), u] w1 (WwP w0 X b w1)) := fun w1 o1 => HV0 w1 (o.trans o1 (fun _ _ g => g)) (h.only o1)
  have hPu := va_hit 81 36 _ Tryz.underlying81 (by intro m h; cases h)
  have O0 : Hid (Only (fun _ => False) w w) := Only.refl _ _
  clear HV0 o h
  rcases hu with rfl | ⟨T, y, rfl⟩
  all_goals
    go_enter Tryz.func33, Tryz.ntmps33
    go_wp2_with fail
    refine (show Calls Tryz.prog 50 _ _ _ from HV.out _ (by repeat' first | exact O0.out | apply Only.alloc)).mono ?_
    rintro e w2 ⟨rfl, g2⟩
    clear HV
    go_wp2
    go_end0
    exact WwP.after ⟨rfl, g2⟩ (by repeat' first | exact O0.out | apply Only.alloc)
set_option maxRecDepth 100000 in
set_option maxHeartbeats 4000000 in
theorem wi_call {w0 w : World} {X : Nat → Prop} {b : Nat} {bg : Bool} (s : ByteArray) (hs : s.size ≤ 66000) (o : Only (fun _ => False) w0 w) (h : WuG w0.heap.size b X bg w) : Calls Tryz.prog 33 #[.pointer (some ⟨b, 0, none⟩), .iface 48 (.agg #[.string s])] w (WwP w0 X b w) := by
  have HV : Hid (∀ w1, Only (fun _ => False) w w1 → Calls Tryz.prog 51 #[.pointer (some ⟨b, 0, none⟩), .string s] w1 (WwP w0 X b w1)) := fun w1 o1 => ww_word s (o.trans o1 (fun _ _ g => g)) (h.only o1) hs
  have mP := va_miss 48 81 36 _ Tryz.underlying81 (by intro m h; cases h) (by decide) _ zPu
  have mC := va_hit 48 36 _ Tryz.underlying48 (by intro m h; cases h)
  have O0 : Hid (Only (fun _ => False) w w) := Only.refl _ _
  clear o h hs
  go_enter Tryz.func33, Tryz.ntmps33
  go_wp2_with fail
  refine (show Calls Tryz.prog 51 _ _ _ from HV.out _ (by repeat' first | exact O0.out | apply Only.alloc)).mono ?_
  rintro e w2 ⟨rfl, g2⟩
  clear HV
  go_wp2
  go_end0
  exact WwP.after ⟨rfl, g2⟩ (by repeat' first | exact O0.out | apply Only.alloc)
end Go.Proofs.YtmpfbjmaiddigaaGreatDoor
namespace Go.Proofs.YtmpfbjmaiddigaaGreatDoor
open Go.RowKit Go.Lib
set_option linter.unusedSimpArgs false
set_option linter.unusedVariables false
theorem ww_val (d : Nat) (H1 : WwC d false 50) (H2 : WwC d true 33) : WwC (d + 1) false 50 := by
  intro t v w0 S b X bg w h hok hsm hT o hw
  obtain ⟨c, hc⟩ := wfull_all hw
  cases c with
  | true => exact ww_full v o hw hc
  | false =>
    obtain ⟨e0, he0⟩ := hsm
    unfold okP at hok
    rcases h with ⟨e, _, rfl⟩ | ⟨e, _, rfl⟩ | ⟨e, _, rfl⟩ | ⟨e, _, rfl⟩ | ⟨e, _, rfl⟩ | ⟨hk4, ao, cap, rfl, hcap, hl⟩
    · exact ww_int t.n he0.num.1 he0.num.2 o hw hT hc
    · rw [if_neg (by omega)] at hok
      have ha : alP t = (decide (t.s.size ≤ 4096) && vlB t.s) := by simp [alP, alB, e]
      rw [ha] at hok
      simp only [Bool.and_eq_true, decide_eq_true_eq] at hok
      exact ww_str t.s hok.1 hok.2 o hw hc
    · exact ww_bool _ o hw hc
    · rw [if_neg (by omega)] at hok
      have ha : alP t = false := by simp [alP, alB, e]
      rw [ha] at hok
      cases hok
    · rw [if_neg (by omega)] at hok
      have ha : alP t = false := by simp [alP, alB, e]
      rw [ha] at hok
      cases hok
    · rw [if_pos hk4] at hok
      rcases hk4 with e4 | e5
      · have hd : decide (t.k = 5) = false := decide_eq_false (by omega)
        rw [if_pos e4]
        rw [hd] at hl hok
        exact ww_list d H1 t.l ao cap S hl (fun x hx => List.all_eq_true.1 hok x hx) he0.parts he0.len hT o hw hc
      · have hd : decide (t.k = 5) = true := decide_eq_true e5
        rw [if_neg (show ¬ t.k = 4 by omega)]
        rw [hd] at hl hok
        exact ww_quot ao t.l.length cap o hw hc (fun Y bg1 w1 o1 h1 => ww_items d H2 t.l ao cap w0 S hl (fun x hx => List.all_eq_true.1 hok x hx) he0.parts he0.len hT b Y bg1 w1 o1 h1)
theorem ww_item (d : Nat) (H : WwC d false 50) : WwC (d + 1) true 33 := by
  intro t v w0 S b X bg w h hok hsm hT o hw
  unfold okP at hok
  rcases h with ⟨h1, h2, rfl⟩ | ⟨h1, h2, rfl⟩ | ⟨h1, h2, u, rfl, hu⟩
  · rw [if_pos h1] at hok
    have hn : nameB t.s = true := by
      unfold clB at hok
      simp only [Bool.and_eq_true] at hok
      exact hok.1
    exact wi_call t.s (by have := (name_size hn).1; omega) o hw
  · rw [if_neg (by omega), if_pos h1] at hok
    cases hok
  · rw [if_neg h1, if_neg h2] at hok
    exact wi_push u hu.shape2 o hw (fun w1 o1 hw1 => H t u w0 S b X bg w1 hu hok hsm hT o1 hw1)
theorem ww_all : ∀ (D d : Nat), d < D → WwC d false 50 ∧ WwC d true 33
  | 0, d, h => by omega
  | D + 1, d, h => by
    cases d with
    | zero => exact ⟨fun t v w0 S b X bg w h => h.elim, fun t v w0 S b X bg w h => h.elim⟩
    | succ d =>
      have ih := ww_all D d (by omega)
      exact ⟨ww_val d ih.1 ih.2, ww_item d ih.1⟩
end Go.Proofs.YtmpfbjmaiddigaaGreatDoor
