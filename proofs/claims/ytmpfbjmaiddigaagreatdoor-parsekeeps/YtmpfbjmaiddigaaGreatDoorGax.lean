/- parse's writer: the whole, at any state; Text of any items. parse's writer: a definition, a form; the soundness of a definition; Source of one definition. parse.Source of one definition, whatever it is. ParseKeeps: the walk. -/
import Derived.Test.YtmpfbjmaiddigaaGreatDoorGaw
import Derived.Test.YtmpfbjmaiddigaaGreatDoorGau
import Derived.Test.YtmpfbjmaiddigaaGreatDoorGan
namespace Go.Proofs.YtmpfbjmaiddigaaGreatDoor
open Go.RowKit Go.Lib
set_option linter.unusedSimpArgs false
set_option linter.unusedVariables false
set_option maxHeartbeats 2000000 in
set_option maxRecDepth 100000 in
theorem wstr_none (B b : Nat) (bg : Bool) (p : Value) (w : World) (hbk : w.heap[b]? = some (.cells #[p, .slice none 0 0, .bool bg] 62)) :
    Calls Tryz.prog 35 #[.pointer (some ⟨b, 0, none⟩)] w fun e w' => e = .returned (.string ⟨#[]⟩) ∧ Below B w w' := by
  have hbk' : w.drew.heap[b]? = some (.cells #[p, .slice none 0 0, .bool bg] 62) := hbk
  have c1 := wr_cell hbk' 1
  simp only [List.getElem?_toArray, List.getElem?_cons_zero, List.getElem?_cons_succ] at c1
  have hUS : ∀ (W : World) (q : Option Addr), (Builtin.unsafeString_ #[130, 3] 9 #[.pointer q, .int .i64 0]).run Tryz.prog W = .ok (.string .empty) W := fun W q => run_unsafeString_none W _ _ _ q
  have hSD : (Builtin.unsafeSliceData_ #[58] 130 #[.slice none 0 0]).run Tryz.prog w.drew = .ok (.pointer none) w.drew := rfl
  clear hbk hbk'
  go_enter Tryz.func35, Tryz.ntmps35
  go_wp2
  go_region
  all_goals (go_wp2; go_ret; exact ⟨rfl, Below.drew (Below.refl B w)⟩)
set_option maxHeartbeats 2000000 in
set_option maxRecDepth 100000 in
theorem wstr_zero (B b g : Nat) (bg : Bool) (p : Value) (cur : Array Value) (fz : Nat × Nat) (w : World) (hBw : B ≤ w.heap.size) (hbk : w.heap[b]? = some (.cells #[p, .slice (some ⟨g, 0, none⟩) 0 0, .bool bg] 62)) (hg : w.heap[g]? = some (.cells cur 5 fz)) :
    Calls Tryz.prog 35 #[.pointer (some ⟨b, 0, none⟩)] w fun e w' => e = .returned (.string ⟨#[]⟩) ∧ Below B w w' := by
  have hlt : b < w.heap.size := (Array.getElem?_eq_some_iff.1 hbk).1
  have hbk' : w.drew.heap[b]? = some (.cells #[p, .slice (some ⟨g, 0, none⟩) 0 0, .bool bg] 62) := hbk
  have c1 := wr_cell hbk' 1
  have c0 := wr_cell hbk 1
  simp only [List.getElem?_toArray, List.getElem?_cons_zero, List.getElem?_cons_succ] at c0 c1
  have hUS : ∀ (W : World) (q : Option Addr), (Builtin.unsafeString_ #[130, 3] 9 #[.pointer q, .int .i64 0]).run Tryz.prog W = .ok (.string .empty) W := fun W q => run_unsafeString_none W _ _ _ q
  have hSD : (Builtin.unsafeSliceData_ #[58] 130 #[.slice (some ⟨g, 0, none⟩) 0 0]).run Tryz.prog w.drew = .ok (.pointer (some ⟨w.drew.heap.size, 0, none⟩)) (w.drew.alloc (.view ⟨g, 0, none⟩ 5)) :=
    run_unsafeSliceData_zero w.drew _ _ 5 Tryz.underlying130 ⟨g, 0, none⟩ 0 (5, cur.size) (by have hg' : w.drew.heap[g]? = some (.cells cur 5 fz) := hg; simp [World.shape?, hg'])
  have h2 : (w.drew.alloc (.view ⟨g, 0, none⟩ 5)).heap[b]? = some (.cells #[p, .slice (some ⟨g, 0, none⟩) 0 0, .bool bg] 62) := (Lib.alloc_old w.drew _ b hlt).trans hbk
  have c2 := wr_cell h2 1
  simp only [List.getElem?_toArray, List.getElem?_cons_zero, List.getElem?_cons_succ] at c2
  have c3 : (w.alloc (.view ⟨g, 0, none⟩ 5)).drew.cell? ⟨b, 1, none⟩ = some (.slice (some ⟨g, 0, none⟩) 0 0) := c2
  clear hbk hbk' hg h2 hlt
  go_enter Tryz.func35, Tryz.ntmps35
  go_wp2
  go_region
  all_goals (go_wp2; go_ret; exact ⟨rfl, (Below.drew (Below.refl B w)).alloc hBw _⟩)
set_option maxHeartbeats 2000000 in
set_option maxRecDepth 100000 in
theorem wstr_room (B b g cap : Nat) (bg : Bool) (p : Value) (w : World) (hc0 : cap ≠ 0) (hbk : w.heap[b]? = some (.cells #[p, .slice (some ⟨g, 0, none⟩) 0 cap, .bool bg] 62)) :
    Calls Tryz.prog 35 #[.pointer (some ⟨b, 0, none⟩)] w fun e w' => e = .returned (.string ⟨#[]⟩) ∧ Below B w w' := by
  have hbk' : w.drew.heap[b]? = some (.cells #[p, .slice (some ⟨g, 0, none⟩) 0 cap, .bool bg] 62) := hbk
  have c1 := wr_cell hbk' 1
  simp only [List.getElem?_toArray, List.getElem?_cons_zero, List.getElem?_cons_succ] at c1
  have hUS : ∀ (W : World) (q : Option Addr), (Builtin.unsafeString_ #[130, 3] 9 #[.pointer q, .int .i64 0]).run Tryz.prog W = .ok (.string .empty) W := fun W q => run_unsafeString_none W _ _ _ q
  have hSD : (Builtin.unsafeSliceData_ #[58] 130 #[.slice (some ⟨g, 0, none⟩) 0 cap]).run Tryz.prog w.drew = .ok (.pointer (some ⟨g, 0, none⟩)) w.drew := run_unsafeSliceData_row _ _ _ _ _ _ hc0
  clear hbk hbk' hc0
  go_enter Tryz.func35, Tryz.ntmps35
  go_wp2
  go_region
  all_goals (go_wp2; go_ret; exact ⟨rfl, Below.drew (Below.refl B w)⟩)
/-- the text, whatever there is -/
theorem wstring_all {B b : Nat} {X : Nat → Prop} {bg : Bool} {w : World} (h : WuG B b X bg w) (hBw : B ≤ w.heap.size) :
    ∃ s, Calls Tryz.prog 35 #[.pointer (some ⟨b, 0, none⟩)] w fun e w' => e = .returned (.string s) ∧ Below B w w' := by
  obtain ⟨l, hw, hl⟩ := h
  by_cases h0 : l = []
  · subst h0
    obtain ⟨hB, p, v, hbk, hp, hown, hne⟩ := hw.u
    refine ⟨⟨#[]⟩, ?_⟩
    rcases hown.2 with ⟨rfl, _⟩ | ⟨g, cap, cur, fz, rfl, _, hg, _⟩
    · exact wstr_none B b bg p w hbk
    · by_cases hc : cap = 0
      · subst hc
        exact wstr_zero B b g bg p cur fz w hBw hbk hg
      · exact wstr_room B b g cap bg p w hc hbk
  · exact ⟨_, wstring_any B b l bg w hw.u h0⟩
set_option maxRecDepth 100000 in
theorem wwhole_all {B b : Nat} {X : Nat → Prop} {bg : Bool} {w : World} (h : WuG B b X bg w) (hBw : B ≤ w.heap.size) :
    ∃ s, ∃ E : Int, Calls Tryz.prog 19 #[.pointer (some ⟨b, 0, none⟩)] w fun e w' => e = .returned (.tuple #[.string s, .int .i64 E]) ∧ Below B w w' := by
  obtain ⟨s, hs⟩ := wstring_all h hBw
  obtain ⟨c, hc⟩ := wfull_all h
  cases c with
  | true =>
    refine ⟨⟨#[]⟩, 11, ?_⟩
    have HF : Hid _ := hc
    clear h hs hc
    go_enter Tryz.func19, Tryz.ntmps19
    go_wp2_with fail
    refine (show Calls Tryz.prog 34 _ _ _ from HF.out).mono ?_
    rintro e w1 ⟨rfl, rfl⟩
    clear HF
    go_wp2
    go_ret2
    exact ⟨rfl, Below.refl _ _⟩
  | false =>
    refine ⟨s, 0, ?_⟩
    have HF : Hid _ := hc
    have HS : Hid _ := hs
    clear h hs hc
    go_enter Tryz.func19, Tryz.ntmps19
    go_wp2_with fail
    refine (show Calls Tryz.prog 34 _ _ _ from HF.out).mono ?_
    rintro e w1 ⟨rfl, rfl⟩
    clear HF
    go_wp2_with fail
    refine (show Calls Tryz.prog 35 _ _ _ from HS.out).mono ?_
    rintro e w2 ⟨rfl, b2⟩
    have B2 : Hid (Below B w1 w2) := b2
    clear HS b2
    go_wp2
    go_ret2
    exact ⟨rfl, B2.out⟩
theorem siP_ok {d : Nat} {l : List Vt} (h : siP d l = true) : ∀ x ∈ l, okP d true x = true := fun x hx => by
  have := List.all_eq_true.1 h x hx
  unfold mpB at this
  simp only [Bool.and_eq_true] at this
  exact this.1.1
/-- a writer that was made just now -/
theorem wug_new {w : World} {b : Nat} (hb : b = w.heap.size) : WuG b b (fun _ => False) false (w.alloc (.cells #[.pointer none, .slice none 0 0, .bool false] 62)) :=
  ⟨[], ⟨Nat.le_refl _, fun g => g, fun k hk => hk.elim, .pointer none, .slice none 0 0, va_at _ _ _ hb, .inl rfl, ⟨rfl, .inl ⟨rfl, rfl⟩⟩, by simp [Value.ownBlock], fun k hk => hk.elim⟩, by simp⟩
theorem QiAt.only {w w' : World} {S : Nat → Prop} {d : Nat} {i : Bool} {l : List Vt} {v : Value} (h : QiAt w S d i v l) (o : Only (fun _ => False) w w') : QiAt w' S d i v l :=
  h.step (fun _ g => g) (fun a u _ hc => o.cell hc (fun g => g)) (Nat.le_refl _)
theorem ww_itemsQ {d : Nat} {l : List Vt} {v : Value} {w0 w : World} {S : Nat → Prop} {b : Nat} {X : Nat → Prop} {bg : Bool} (h : QiAt w0 S d true v l) (hok : ∀ x ∈ l, okP d true x = true) (hsm : ∀ x ∈ l, ∃ e, SmT e x) (hl : l.length ≤ 2513169434900) (hT : Tx w0) (o : Only (fun _ => False) w0 w) (hw : WuG w0.heap.size b X bg w) :
    Calls Tryz.prog 18 #[.pointer (some ⟨b, 0, none⟩), v] w (WwP w0 X b w) := by
  obtain ⟨ao, cap, rfl, _, hq⟩ := h
  exact ww_items d (ww_all (d + 1) d (by omega)).2 l ao cap w0 S hq hok hsm hl hT b X bg w o hw
/-- what Text answers of any items -/
def TaP (w : World) (e : Ending) (w' : World) : Prop := ∃ s, ∃ E : Int, e = .returned (.tuple #[.string s, .int .i64 E]) ∧ Only (fun _ => False) w w'
set_option maxRecDepth 100000 in
set_option maxHeartbeats 4000000 in
theorem ptext_all {d : Nat} {l : List Vt} {v : Value} {w : World} {S : Nat → Prop} (h : QiAt w S d true v l) (hS : ∀ b, S b → b < w.heap.size) (hsm : ∀ x ∈ l, ∃ e, SmT e x) (hl : l.length ≤ 2513169434900) (hT : Tx w) : Calls Tryz.prog 7 #[v] w (TaP w) := by
  have HS : Hid (Calls Tryz.prog 17 #[v] w fun e w' => e = .returned (.bool (siP d l)) ∧ Only (fun _ => False) w w') := psoundItems_any h hS hsm hl hT.1
  obtain ⟨ao, cap, hv, _⟩ := id h
  cases hz : siP d l with
  | false =>
    rw [hz] at HS
    subst hv
    clear h hS hsm hl hT hz
    go_enter Tryz.func7, Tryz.ntmps7
    go_wp2_with fail
    refine (show Calls Tryz.prog 17 _ _ _ from HS.out).mono ?_
    rintro e w1 ⟨rfl, o1⟩
    have O1 : Hid (Only (fun _ => False) w w1) := o1
    clear HS o1
    go_wp2
    go_ret2
    exact ⟨_, _, rfl, O1.out⟩
  | true =>
    rw [hz] at HS
    have hok := siP_ok hz
    have HI : Hid (∀ w1 W2 b, Only (fun _ => False) w w1 → b = w1.heap.size → W2 = w1.alloc (.cells #[.pointer none, .slice none 0 0, .bool false] 62) → Calls Tryz.prog 18 #[.pointer (some ⟨b, 0, none⟩), v] W2 (WwP w1 (fun _ => False) b W2)) := fun w1 W2 b o hb hW => by
      have h2 := wug_new hb
      rw [hW]
      exact ww_itemsQ (h.only o) hok hsm hl (hT.frame o) ((Only.refl _ w1).alloc _) (by rw [← hb]; exact h2)
    subst hv
    clear h hS hsm hl hT hz hok
    go_enter Tryz.func7, Tryz.ntmps7
    go_wp2_with fail
    refine (show Calls Tryz.prog 17 _ _ _ from HS.out).mono ?_
    rintro e w1 ⟨rfl, o1⟩
    obtain ⟨b, hb⟩ : ∃ b, b = w1.heap.size := ⟨_, rfl⟩
    obtain ⟨W2, hW2⟩ : ∃ W2, W2 = w1.alloc (.cells #[.pointer none, .slice none 0 0, .bool false] 62) := ⟨_, rfl⟩
    have HJ : Hid _ := HI.out w1 W2 b o1 hb hW2
    have H2 : Hid (Only (fun _ => False) w w1 ∧ Only (fun _ => False) w1 W2 ∧ b = w1.heap.size) := ⟨o1, by rw [hW2]; exact (Only.refl _ w1).alloc _, hb⟩
    clear HS o1 HI
    go_wp2_with fail
    rw [← hb, ← hW2]
    refine (show Calls Tryz.prog 18 _ _ _ from HJ.out).mono ?_
    rintro e w3 ⟨rfl, g3⟩
    obtain ⟨bg, hu⟩ := g3.out.1
    have o3 : Only (fun _ => False) w1 w3 := H2.out.2.1.trans g3.out.2 (fun k hk e => by have := e.1; omega)
    obtain ⟨s, E, hw⟩ := wwhole_all hu o3.size
    have HW : Hid _ := hw
    have O3 : Hid (Only (fun _ => False) w w1 ∧ Only (fun _ => False) w1 w3) := ⟨H2.out.1, o3⟩
    clear HJ g3 hW2 hb hu o3 hw H2
    go_wp2_with fail
    refine (show Calls Tryz.prog 19 _ _ _ from HW.out).mono ?_
    rintro e w4 ⟨rfl, b4⟩
    have O4 : Hid (Only (fun _ => False) w w4) := (O3.out.1.trans O3.out.2 (fun _ _ g => g)).trans (⟨b4.os, b4.tape, b4.output, b4.size, fun k hk hn => b4.block k (by omega)⟩ : Only (fun k => w1.heap.size ≤ k) w3 w4) (fun k hk e => by have := O3.out.1.size; omega)
    clear HW b4 O3
    go_wp2
    go_ret2
    exact ⟨_, _, rfl, O4.out⟩
end Go.Proofs.YtmpfbjmaiddigaaGreatDoor
namespace Go.Proofs.YtmpfbjmaiddigaaGreatDoor
open Go.RowKit Go.Lib
set_option linter.unusedSimpArgs false
set_option linter.unusedVariables false
/-- the writer under way since the world W -/
def DfS (B b : Nat) (X : Nat → Prop) (W w' : World) : Prop := (∃ bg, WuG B b X bg w') ∧ Only (fun k => B ≤ k ∧ ¬ X k) W w'
theorem DfS.step {w0 W w1 : World} {b : Nat} {X : Nat → Prop} {e : Ending} {w' : World} (h : DfS w0.heap.size b X W w1) (g : WwP w0 X b w1 e w') : e = .returned (.tuple #[]) ∧ Hid (DfS w0.heap.size b X W w') :=
  ⟨g.1, g.2.out.1, h.2.trans g.2.out.2 (fun _ _ g => g)⟩
theorem DfS.base {w0 W w1 : World} {b : Nat} {X : Nat → Prop} (h : DfS w0.heap.size b X W w1) (o : Only (fun _ => False) w0 W) : Only (fun _ => False) w0 w1 := o.trans h.2 (fun k hk e => by have := e.1; omega)
theorem DfS.word {w0 W w1 : World} {b : Nat} {X : Nat → Prop} (s : ByteArray) (h : DfS w0.heap.size b X W w1) (o : Only (fun _ => False) w0 W) (hs : s.size ≤ 66000) : Calls Tryz.prog 51 #[.pointer (some ⟨b, 0, none⟩), .string s] w1 fun e w' => e = .returned (.tuple #[]) ∧ Hid (DfS w0.heap.size b X W w') := by
  obtain ⟨bg, hb⟩ := h.1
  exact (ww_word s (h.base o) hb hs).mono fun e w' g => h.step g
theorem DfS.items {d : Nat} {l : List Vt} {v : Value} {w0 W w1 : World} {S : Nat → Prop} {b : Nat} {X : Nat → Prop} (hq : QiAt w0 S d true v l) (hok : ∀ x ∈ l, okP d true x = true) (hsm : ∀ x ∈ l, ∃ e, SmT e x) (hl : l.length ≤ 2513169434900) (hT : Tx w0) (h : DfS w0.heap.size b X W w1) (o : Only (fun _ => False) w0 W) : Calls Tryz.prog 18 #[.pointer (some ⟨b, 0, none⟩), v] w1 fun e w' => e = .returned (.tuple #[]) ∧ Hid (DfS w0.heap.size b X W w') := by
  obtain ⟨bg, hb⟩ := h.1
  exact (ww_itemsQ hq hok hsm hl hT (h.base o) hb).mono fun e w' g => h.step g
set_option maxRecDepth 100000 in
theorem DfS.side {w0 W w1 : World} {b : Nat} {X : Nat → Prop} (n : Nat) (hn : n ≤ 16) (h : DfS w0.heap.size b X W w1) (o : Only (fun _ => False) w0 W) : Calls Tryz.prog 55 #[.pointer (some ⟨b, 0, none⟩), .int .i64 (n : Int)] w1 fun e w' => e = .returned (.tuple #[]) ∧ Hid (DfS w0.heap.size b X W w') := by
  have HW : Hid (∀ w2, DfS w0.heap.size b X W w2 → Calls Tryz.prog 51 #[.pointer (some ⟨b, 0, none⟩), .string ⟨#[120]⟩] w2 fun e w' => e = .returned (.tuple #[]) ∧ Hid (DfS w0.heap.size b X W w')) := fun w2 h2 => h2.word ⟨#[120]⟩ o (by decide)
  have HG : Hid (DfS w0.heap.size b X W w1) := h
  clear h o
  go_enter Tryz.func55, Tryz.ntmps55
  go_wp2
  go_loopw [5] (fun r wr => ∃ j : Nat, r = .int .i64 (j : Int) ∧ j ≤ n ∧ Hid (DfS w0.heap.size b X W wr)) (fun r _ => n - vuOf r)
  case atStart => exact ⟨0, rfl, Nat.zero_le _, HG⟩
  case round =>
    obtain ⟨j, rfl, hj, HI⟩ := hrel
    obtain ⟨w3, hw3⟩ : ∃ w3, w3 = wr := ⟨_, rfl⟩
    rw [← hw3] at HI ⊢
    clear hw3
    by_cases hjN : j < n
    · have i1 : (j : Int) < (n : Int) := by omega
      have HJ : Hid (j < n) := hjN
      clear hj hjN
      go_wp2_with fail
      refine (show Calls Tryz.prog 51 _ _ _ from HW.out _ HI.out).mono ?_
      rintro e w4 ⟨rfl, g4⟩
      clear HI
      go_wp2
      go_roundw
      case rel => exact ⟨j + 1, by go_num, by have := HJ.out; omega, g4⟩
      case measure => simp only [vuOf]; have := HJ.out; omega
    · obtain rfl : j = n := by omega
      have i1 : ¬ (j : Int) < (j : Int) := by omega
      clear hj hjN
      go_wp2
      go_end0
      exact ⟨rfl, HI⟩
theorem WuG.lessX {B b : Nat} {X Y : Nat → Prop} {bg : Bool} {w : World} (h : WuG B b X bg w) (hY : ∀ k, Y k → X k) : WuG B b Y bg w := by
  obtain ⟨l, h1, h2⟩ := h
  exact ⟨l, h1.less hY, h2⟩
set_option maxRecDepth 100000 in
set_option maxHeartbeats 4000000 in
theorem ww_def {d : Nat} {l : List Vt} {v : Value} {w0 w : World} {S : Nat → Prop} {b : Nat} {X : Nat → Prop} {bg : Bool} (hq : QiAt w0 S d true v l) (hok : ∀ x ∈ l, okP d true x = true) (hsm : ∀ x ∈ l, ∃ e, SmT e x) (hl : l.length ≤ 2513169434900) (hT : Tx w0) (o : Only (fun _ => False) w0 w) (hw : WuG w0.heap.size b X bg w) (nm : ByteArray) (hn : nm.size ≤ 66000) (i j : Nat) (hi : i ≤ 16) (hj : j ≤ 16) :
    Calls Tryz.prog 37 #[.pointer (some ⟨b, 0, none⟩), .agg #[.string nm, .int .i64 (i : Int), .int .i64 (j : Int), v]] w (WwP w0 X b w) := by
  obtain ⟨c, hc⟩ : ∃ c, c = w.heap.size := ⟨_, rfl⟩
  obtain ⟨W, hW⟩ : ∃ W, W = w.alloc (.cells #[.string nm, .int .i64 (i : Int), .int .i64 (j : Int), v] 34) := ⟨_, rfl⟩
  obtain ⟨Y, hY⟩ : ∃ Y : Nat → Prop, Y = fun k => X k ∨ k = c := ⟨_, rfl⟩
  have hWc : W.heap[c]? = some (.cells #[.string nm, .int .i64 (i : Int), .int .i64 (j : Int), v] 34) := by rw [hW]; exact va_at _ _ _ hc
  have oW : Only (fun _ => False) w W := by rw [hW]; exact (Only.refl _ w).alloc _
  have o0 : Only (fun _ => False) w0 W := o.trans oW (fun _ _ g => g)
  have G0 : Hid (DfS w0.heap.size b Y W W) := ⟨⟨bg, by rw [hY]; exact hw.more oW (by omega) ⟨_, _, _, hWc, by decide⟩⟩, Only.refl _ _⟩
  have HK : Hid (∀ w1, DfS w0.heap.size b Y W w1 → (w1.cell? ⟨c, 0, none⟩ = some (.string nm) ∧ w1.cell? ⟨c, 1, none⟩ = some (.int .i64 (i : Int)) ∧ w1.cell? ⟨c, 2, none⟩ = some (.int .i64 (j : Int)) ∧ w1.cell? ⟨c, 3, none⟩ = some v)) := fun w1 h1 => by
    have hb : w1.heap[c]? = some (.cells #[.string nm, .int .i64 (i : Int), .int .i64 (j : Int), v] 34) := (h1.2.block c (Array.getElem?_eq_some_iff.1 hWc).1 (fun g => g.2 (by rw [hY]; exact .inr rfl))).trans hWc
    exact ⟨vblk_cells hb 0, vblk_cells hb 1, vblk_cells hb 2, vblk_cells hb 3⟩
  have HW : Hid (∀ s w1, s.size ≤ 66000 → DfS w0.heap.size b Y W w1 → Calls Tryz.prog 51 #[.pointer (some ⟨b, 0, none⟩), .string s] w1 fun e w' => e = .returned (.tuple #[]) ∧ Hid (DfS w0.heap.size b Y W w')) := fun s w1 hs h1 => h1.word s o0 hs
  have HS : Hid (∀ (n : Nat) w1, n ≤ 16 → DfS w0.heap.size b Y W w1 → Calls Tryz.prog 55 #[.pointer (some ⟨b, 0, none⟩), .int .i64 (n : Int)] w1 fun e w' => e = .returned (.tuple #[]) ∧ Hid (DfS w0.heap.size b Y W w')) := fun n w1 hn h1 => h1.side n hn o0
  have HI : Hid (∀ w1, DfS w0.heap.size b Y W w1 → Calls Tryz.prog 18 #[.pointer (some ⟨b, 0, none⟩), v] w1 fun e w' => e = .returned (.tuple #[]) ∧ Hid (DfS w0.heap.size b Y W w')) := fun w1 h1 => DfS.items hq hok hsm hl hT h1 o0
  have HN : Hid (nm.size ≤ 66000 ∧ i ≤ 16 ∧ j ≤ 16) := ⟨hn, hi, hj⟩
  have HF : Hid (∀ w1, DfS w0.heap.size b Y W w1 → Hid ((∃ bg, WuG w0.heap.size b X bg w1) ∧ Only (fun k => w0.heap.size ≤ k ∧ ¬ X k) w w1)) := fun w1 h1 => by
    obtain ⟨bg1, h2⟩ := h1.1
    exact ⟨⟨bg1, h2.lessX (fun k g => by rw [hY]; exact .inl g)⟩, (oW.mono (fun _ _ g => g.elim)).trans h1.2 (fun k _ g => ⟨g.1, fun gx => g.2 (by rw [hY]; exact .inl gx)⟩)⟩
  obtain ⟨ao, cap, hv, _⟩ := id hq
  have k0 := HK.out W G0.out
  subst hv
  clear hq hok hsm hl hT o hw hn hi hj hWc oW o0 hY
  go_enter Tryz.func37, Tryz.ntmps37
  go_wp2_with fail
  rw [← hW, ← hc]
  clear hW hc
  refine (show Calls Tryz.prog 51 _ _ _ from HW.out ⟨#[58]⟩ _ (by decide) G0.out).mono ?_
  rintro e w1 ⟨rfl, G1⟩
  obtain ⟨a1, b1, c1, d1⟩ := HK.out w1 G1.out
  clear G0 k0
  go_wp2_with fail
  refine (show Calls Tryz.prog 51 _ _ _ from HW.out nm _ HN.out.1 G1.out).mono ?_
  rintro e w2 ⟨rfl, G2⟩
  obtain ⟨a2, b2, c2, d2⟩ := HK.out w2 G2.out
  clear G1 a1 b1 c1 d1
  go_wp2_with fail
  refine (show Calls Tryz.prog 51 _ _ _ from HW.out ⟨#[40]⟩ _ (by decide) G2.out).mono ?_
  rintro e w3 ⟨rfl, G3⟩
  obtain ⟨a3, b3, c3, d3⟩ := HK.out w3 G3.out
  clear G2 a2 b2 c2 d2
  go_wp2_with fail
  refine (show Calls Tryz.prog 55 _ _ _ from HS.out i _ HN.out.2.1 G3.out).mono ?_
  rintro e w4 ⟨rfl, G4⟩
  obtain ⟨a4, b4, c4, d4⟩ := HK.out w4 G4.out
  clear G3 a3 b3 c3 d3
  go_wp2_with fail
  refine (show Calls Tryz.prog 51 _ _ _ from HW.out ⟨#[45, 45]⟩ _ (by decide) G4.out).mono ?_
  rintro e w5 ⟨rfl, G5⟩
  obtain ⟨a5, b5, c5, d5⟩ := HK.out w5 G5.out
  clear G4 a4 b4 c4 d4
  go_wp2_with fail
  refine (show Calls Tryz.prog 55 _ _ _ from HS.out j _ HN.out.2.2 G5.out).mono ?_
  rintro e w6 ⟨rfl, G6⟩
  obtain ⟨a6, b6, c6, d6⟩ := HK.out w6 G6.out
  clear G5 a5 b5 c5 d5
  go_wp2_with fail
  refine (show Calls Tryz.prog 51 _ _ _ from HW.out ⟨#[41]⟩ _ (by decide) G6.out).mono ?_
  rintro e w7 ⟨rfl, G7⟩
  obtain ⟨a7, b7, c7, d7⟩ := HK.out w7 G7.out
  clear G6 a6 b6 c6 d6
  go_wp2_with fail
  refine (show Calls Tryz.prog 18 _ _ _ from HI.out _ G7.out).mono ?_
  rintro e w8 ⟨rfl, G8⟩
  obtain ⟨a8, b8, c8, d8⟩ := HK.out w8 G8.out
  clear G7 a7 b7 c7 d7
  go_wp2_with fail
  refine (show Calls Tryz.prog 51 _ _ _ from HW.out ⟨#[59]⟩ _ (by decide) G8.out).mono ?_
  rintro e w9 ⟨rfl, G9⟩
  obtain ⟨a9, b9, c9, d9⟩ := HK.out w9 G9.out
  clear G8 a8 b8 c8 d8
  go_wp2
  go_end0
  exact ⟨rfl, HF.out _ G9.out⟩
set_option maxRecDepth 100000 in
set_option maxHeartbeats 4000000 in
theorem ww_form {d : Nat} {l : List Vt} {v : Value} {w0 w : World} {S : Nat → Prop} {b : Nat} {X : Nat → Prop} {bg : Bool} (hq : QiAt w0 S d true v l) (hok : ∀ x ∈ l, okP d true x = true) (hsm : ∀ x ∈ l, ∃ e, SmT e x) (hl : l.length ≤ 2513169434900) (hT : Tx w0) (o : Only (fun _ => False) w0 w) (hw : WuG w0.heap.size b X bg w) (nm : ByteArray) (hn : nm.size ≤ 66000) (i j : Nat) (hi : i ≤ 16) (hj : j ≤ 16) :
    Calls Tryz.prog 21 #[.pointer (some ⟨b, 0, none⟩), .agg #[.bool true, .string nm, .int .i64 (i : Int), .int .i64 (j : Int), v, .nilIface]] w (WwP w0 X b w) := by
  have HD : Hid (∀ W, W = w.alloc (.cells #[.bool true, .string nm, .int .i64 (i : Int), .int .i64 (j : Int), v, .nilIface] 38) → Calls Tryz.prog 37 #[.pointer (some ⟨b, 0, none⟩), .agg #[.string nm, .int .i64 (i : Int), .int .i64 (j : Int), v]] W (WwP w0 X b w)) := fun W hW => by
    have oW : Only (fun _ => False) w W := by rw [hW]; exact (Only.refl _ w).alloc _
    exact (ww_def hq hok hsm hl hT (o.trans oW (fun _ _ g => g)) (hw.only oW) nm hn i j hi hj).mono fun e w' g => g.after oW
  obtain ⟨ao, cap, hv, _⟩ := id hq
  subst hv
  clear hq hok hsm hl hT o hw hn hi hj
  go_enter Tryz.func21, Tryz.ntmps21
  go_wp2_with fail
  refine (show Calls Tryz.prog 37 _ _ _ from HD.out _ rfl).mono ?_
  rintro e w1 ⟨rfl, g1⟩
  clear HD
  go_wp2
  refine bodyPost_ret (results_none rfl _ _ _) rfl ?_
  exact ⟨rfl, g1⟩
set_option maxRecDepth 100000 in
theorem wendLine_all {B b : Nat} {X : Nat → Prop} {bg : Bool} {w : World} (h : WuG B b X bg w) (hBw : B ≤ w.heap.size) : Calls Tryz.prog 22 #[.pointer (some ⟨b, 0, none⟩)] w fun e w' => e = .returned (.tuple #[]) ∧ Hid (WuG B b X false w' ∧ Only (fun k => B ≤ k ∧ ¬ X k) w w') := by
  have HA : Hid _ := wadd_all B b X bg ⟨#[10]⟩ w h (by decide) hBw
  obtain ⟨_, _, hB⟩ := h.at2
  have HB : Hid (B ≤ b ∧ ¬ X b) := hB
  clear h hBw hB
  go_enter Tryz.func22, Tryz.ntmps22
  go_wp2_with fail
  refine (show Calls Tryz.prog 38 _ _ _ from HA.out).mono ?_
  rintro e w1 ⟨rfl, g1⟩
  obtain ⟨d2, f2, _⟩ := g1.out.1.at2
  clear HA
  go_wp2
  go_end0
  obtain ⟨q1, q2⟩ := g1.out.1.begun false
  exact ⟨rfl, q1, g1.out.2.trans q2 (fun k hk e => by subst e; exact HB.out)⟩
set_option maxRecDepth 100000 in
theorem soundSide_any (n : Int) (w : World) : Calls Tryz.prog 54 #[.int .i64 n] w fun e w' => e = .returned (.bool (decide (0 ≤ n) && decide (n ≤ 16))) ∧ w' = w := by
  by_cases h0 : 0 ≤ n
  · by_cases h1 : n ≤ 16
    · rw [decide_eq_true h0, decide_eq_true h1]
      go_enter Tryz.func54, Tryz.ntmps54
      go_wp2
      go_ret
      exact ⟨by simp [*], rfl⟩
    · rw [decide_eq_true h0, decide_eq_false h1]
      go_enter Tryz.func54, Tryz.ntmps54
      go_wp2
      go_ret
      exact ⟨by simp [*], rfl⟩
  · rw [decide_eq_false h0, Bool.false_and]
    go_enter Tryz.func54, Tryz.ntmps54
    go_wp2
    go_ret
    exact ⟨by simp [*], rfl⟩
/-- is a definition one that has a text? -/
def defP (d : Nat) (nm : ByteArray) (i j : Int) (l : List Vt) : Bool := clB nm && ((decide (0 ≤ i) && decide (i ≤ 16)) && ((decide (0 ≤ j) && decide (j ≤ 16)) && siP d l))
set_option maxRecDepth 100000 in
set_option maxHeartbeats 4000000 in
theorem psoundDef_any {d : Nat} {l : List Vt} {v : Value} {w : World} {S : Nat → Prop} (hq : QiAt w S d true v l) (hS : ∀ b, S b → b < w.heap.size) (hsm : ∀ x ∈ l, ∃ e, SmT e x) (hl : l.length ≤ 2513169434900) (hT : Tb w) (nm : ByteArray) (i j : Int) :
    Calls Tryz.prog 36 #[.agg #[.string nm, .int .i64 i, .int .i64 j, v]] w fun e w' => e = .returned (.bool (defP d nm i j l)) ∧ Only (fun _ => False) w w' := by
  obtain ⟨c, hc⟩ : ∃ c, c = w.heap.size := ⟨_, rfl⟩
  obtain ⟨W, hW⟩ : ∃ W, W = w.alloc (.cells #[.string nm, .int .i64 i, .int .i64 j, v] 34) := ⟨_, rfl⟩
  have hWc : W.heap[c]? = some (.cells #[.string nm, .int .i64 i, .int .i64 j, v] 34) := by rw [hW]; exact va_at _ _ _ hc
  have oW : Only (fun _ => False) w W := by rw [hW]; exact (Only.refl _ w).alloc _
  have HK : Hid (∀ w1, Only (fun _ => False) W w1 → (w1.cell? ⟨c, 0, none⟩ = some (.string nm) ∧ w1.cell? ⟨c, 1, none⟩ = some (.int .i64 i) ∧ w1.cell? ⟨c, 2, none⟩ = some (.int .i64 j) ∧ w1.cell? ⟨c, 3, none⟩ = some v)) := fun w1 o1 => by
    have hb : w1.heap[c]? = some (.cells #[.string nm, .int .i64 i, .int .i64 j, v] 34) := (o1.block c (Array.getElem?_eq_some_iff.1 hWc).1 (fun g => g)).trans hWc
    exact ⟨vblk_cells hb 0, vblk_cells hb 1, vblk_cells hb 2, vblk_cells hb 3⟩
  obtain ⟨b1, h1⟩ : ∃ b, b = clB nm := ⟨_, rfl⟩
  obtain ⟨b2, h2⟩ : ∃ b, b = (decide (0 ≤ i) && decide (i ≤ 16)) := ⟨_, rfl⟩
  obtain ⟨b3, h3⟩ : ∃ b, b = (decide (0 ≤ j) && decide (j ≤ 16)) := ⟨_, rfl⟩
  obtain ⟨b4, h4⟩ : ∃ b, b = siP d l := ⟨_, rfl⟩
  have HC : Hid (∀ w1, Only (fun _ => False) W w1 → Calls Tryz.prog 53 #[.string nm] w1 fun e w' => e = .returned (.bool b1) ∧ Only (fun _ => False) w1 w') := fun w1 o1 => by rw [h1]; exact pcallable_any nm w1 (hT.1.frame (oW.trans o1 (fun _ _ g => g)))
  have H2 : Hid (∀ w1, Calls Tryz.prog 54 #[.int .i64 i] w1 fun e w' => e = .returned (.bool b2) ∧ w' = w1) := fun w1 => by rw [h2]; exact soundSide_any i w1
  have H3 : Hid (∀ w1, Calls Tryz.prog 54 #[.int .i64 j] w1 fun e w' => e = .returned (.bool b3) ∧ w' = w1) := fun w1 => by rw [h3]; exact soundSide_any j w1
  have H4 : Hid (∀ w1, Only (fun _ => False) W w1 → Calls Tryz.prog 17 #[v] w1 fun e w' => e = .returned (.bool b4) ∧ Only (fun _ => False) w1 w') := fun w1 o1 => by
    have o2 := oW.trans o1 (fun _ _ g => g)
    rw [h4]
    exact psoundItems_any (hq.only o2) (fun b hb => Nat.lt_of_lt_of_le (hS b hb) o2.size) hsm hl (hT.frame o2)
  obtain ⟨Z, hZ⟩ : ∃ Z, Z = defP d nm i j l := ⟨_, rfl⟩
  have hZ2 : Z = (b1 && (b2 && (b3 && b4))) := by rw [hZ, h1, h2, h3, h4]; rfl
  rw [← hZ]
  have OW : Hid (Only (fun _ => False) w W) := oW
  obtain ⟨ao, cap, hv, _⟩ := id hq
  obtain ⟨a0, a1, a2, a3⟩ := HK.out W (Only.refl _ _)
  subst hv
  clear hq hS hsm hl hT hWc oW h1 h2 h3 h4 hZ
  cases b1 with
  | false =>
    have HZ : Hid (Z = false) := by rw [hZ2]; rfl
    clear hZ2
    go_enter Tryz.func36, Tryz.ntmps36
    go_wp2_with fail
    rw [← hW]
    refine (show Calls Tryz.prog 53 _ _ _ from HC.out _ (Only.refl _ _)).mono ?_
    rintro e w1 ⟨rfl, o1⟩
    have O1 : Hid (Only (fun _ => False) W w1) := o1
    clear HC H2 H3 H4 o1 HK
    go_wp2
    go_ret
    exact ⟨by rw [HZ.out]; rfl, OW.out.trans O1.out (fun _ _ g => g)⟩
  | true =>
    cases b2 with
    | false =>
      have HZ : Hid (Z = false) := by rw [hZ2]; rfl
      clear hZ2
      go_enter Tryz.func36, Tryz.ntmps36
      go_wp2_with fail
      rw [← hW, ← hc]
      clear hW hc
      refine (show Calls Tryz.prog 53 _ _ _ from HC.out _ (Only.refl _ _)).mono ?_
      rintro e w1 ⟨rfl, o1⟩
      have O1 : Hid (Only (fun _ => False) W w1) := o1
      obtain ⟨e0, e1, e2, e3⟩ := HK.out w1 o1
      clear HC o1 a0 a1 a2 a3 HK H4 H3
      go_wp2_with fail
      refine (show Calls Tryz.prog 54 _ _ _ from H2.out _).mono ?_
      rintro e w2 ⟨rfl, rfl⟩
      clear H2
      go_wp2
      go_ret
      exact ⟨by rw [HZ.out]; rfl, OW.out.trans O1.out (fun _ _ g => g)⟩
    | true =>
      cases b3 with
      | false =>
        have HZ : Hid (Z = false) := by rw [hZ2]; rfl
        clear hZ2
        go_enter Tryz.func36, Tryz.ntmps36
        go_wp2_with fail
        rw [← hW, ← hc]
        clear hW hc
        refine (show Calls Tryz.prog 53 _ _ _ from HC.out _ (Only.refl _ _)).mono ?_
        rintro e w1 ⟨rfl, o1⟩
        have O1 : Hid (Only (fun _ => False) W w1) := o1
        obtain ⟨e0, e1, e2, e3⟩ := HK.out w1 o1
        clear HC o1 a0 a1 a2 a3 HK H4
        go_wp2_with fail
        refine (show Calls Tryz.prog 54 _ _ _ from H2.out _).mono ?_
        rintro e w2 ⟨rfl, rfl⟩
        clear H2
        go_wp2_with fail
        refine (show Calls Tryz.prog 54 _ _ _ from H3.out _).mono ?_
        rintro e w3 ⟨rfl, rfl⟩
        clear H3
        go_wp2
        go_ret
        exact ⟨by rw [HZ.out]; rfl, OW.out.trans O1.out (fun _ _ g => g)⟩
      | true =>
        have HZ : Hid (Z = b4) := by rw [hZ2]; rfl
        clear hZ2
        go_enter Tryz.func36, Tryz.ntmps36
        go_wp2_with fail
        rw [← hW, ← hc]
        clear hW hc
        refine (show Calls Tryz.prog 53 _ _ _ from HC.out _ (Only.refl _ _)).mono ?_
        rintro e w1 ⟨rfl, o1⟩
        have O1 : Hid (Only (fun _ => False) W w1) := o1
        obtain ⟨e0, e1, e2, e3⟩ := HK.out w1 o1
        clear HC o1 a0 a1 a2 a3 HK
        go_wp2_with fail
        refine (show Calls Tryz.prog 54 _ _ _ from H2.out _).mono ?_
        rintro e w2 ⟨rfl, rfl⟩
        clear H2
        go_wp2_with fail
        refine (show Calls Tryz.prog 54 _ _ _ from H3.out _).mono ?_
        rintro e w3 ⟨rfl, rfl⟩
        clear H3
        go_wp2_with fail
        refine (show Calls Tryz.prog 17 _ _ _ from H4.out _ O1.out).mono ?_
        rintro e w4 ⟨rfl, o4⟩
        have O4 : Hid (Only (fun _ => False) W w4) := O1.out.trans o4 (fun _ _ g => g)
        clear H4 o4 O1
        go_wp2
        go_ret
        exact ⟨by rw [HZ.out]; rfl, OW.out.trans O4.out (fun _ _ g => g)⟩
set_option maxRecDepth 100000 in
set_option maxHeartbeats 4000000 in
theorem psoundForm_def {d : Nat} {l : List Vt} {v : Value} {w : World} {S : Nat → Prop} (hq : QiAt w S d true v l) (hS : ∀ b, S b → b < w.heap.size) (hsm : ∀ x ∈ l, ∃ e, SmT e x) (hl : l.length ≤ 2513169434900) (hT : Tb w) (nm : ByteArray) (i j : Int) :
    Calls Tryz.prog 20 #[.agg #[.bool true, .string nm, .int .i64 i, .int .i64 j, v, .nilIface]] w fun e w' => e = .returned (.bool (defP d nm i j l)) ∧ Only (fun _ => False) w w' := by
  obtain ⟨Z, hZ⟩ : ∃ Z, Z = defP d nm i j l := ⟨_, rfl⟩
  have HD : Hid (∀ W, W = w.alloc (.cells #[.bool true, .string nm, .int .i64 i, .int .i64 j, v, .nilIface] 38) → Calls Tryz.prog 36 #[.agg #[.string nm, .int .i64 i, .int .i64 j, v]] W fun e w' => e = .returned (.bool Z) ∧ Only (fun _ => False) w w') := fun W hW => by
    have oW : Only (fun _ => False) w W := by rw [hW]; exact (Only.refl _ w).alloc _
    rw [hZ]
    exact (psoundDef_any (hq.only oW) (fun b hb => Nat.lt_of_lt_of_le (hS b hb) oW.size) hsm hl (hT.frame oW) nm i j).mono fun e w' g => ⟨g.1, oW.trans g.2 (fun _ _ g => g)⟩
  obtain ⟨ao, cap, hv, _⟩ := id hq
  subst hv
  rw [← hZ]
  clear hq hS hsm hl hT hZ
  go_enter Tryz.func20, Tryz.ntmps20
  go_wp2_with fail
  refine (show Calls Tryz.prog 36 _ _ _ from HD.out _ rfl).mono ?_
  rintro e w1 ⟨rfl, o1⟩
  have O1 : Hid (Only (fun _ => False) w w1) := o1
  clear HD o1
  go_wp2
  go_ret
  exact ⟨rfl, O1.out⟩
end Go.Proofs.YtmpfbjmaiddigaaGreatDoor
namespace Go.Proofs.YtmpfbjmaiddigaaGreatDoor
open Go.RowKit Go.Lib
set_option linter.unusedSimpArgs false
set_option linter.unusedVariables false
theorem defP_ok {d : Nat} {nm : ByteArray} {i j : Int} {l : List Vt} (h : defP d nm i j l = true) : clB nm = true ∧ (0 ≤ i ∧ i ≤ 16) ∧ (0 ≤ j ∧ j ≤ 16) ∧ siP d l = true := by
  unfold defP at h
  simp only [Bool.and_eq_true, decide_eq_true_eq] at h
  exact h
theorem clB_size {nm : ByteArray} (h : clB nm = true) : nm.size ≤ 66000 := by
  unfold clB at h
  simp only [Bool.and_eq_true] at h
  have := (name_size h.1).1
  omega
set_option maxRecDepth 100000 in
set_option maxHeartbeats 4000000 in
theorem psource_def {d : Nat} {l : List Vt} {v : Value} {w : World} {S : Nat → Prop} (hq : QiAt w S d true v l) (hS : ∀ b, S b → b < w.heap.size) (hsm : ∀ x ∈ l, ∃ e, SmT e x) (hl : l.length ≤ 2513169434900) (hT : Tx w) (nm : ByteArray) (i j : Int) (g : Nat) (hg : w.heap[g]? = some (.cells #[.bool true, .string nm, .int .i64 i, .int .i64 j, v, .nilIface] 38)) :
    Calls Tryz.prog 8 #[.slice (some ⟨g, 0, none⟩) 1 1] w (TaP w) := by
  obtain ⟨Z, hZ⟩ : ∃ Z, Z = defP d nm i j l := ⟨_, rfl⟩
  have HSF : Hid (∀ w1, Only (fun _ => False) w w1 → Calls Tryz.prog 20 #[.agg #[.bool true, .string nm, .int .i64 i, .int .i64 j, v, .nilIface]] w1 fun e w' => e = .returned (.bool Z) ∧ Only (fun _ => False) w1 w') := fun w1 o1 => by
    rw [hZ]
    exact psoundForm_def (hq.only o1) (fun b hb => Nat.lt_of_lt_of_le (hS b hb) o1.size) hsm hl (hT.1.frame o1) nm i j
  have HK : Hid (∀ w1, Only (fun _ => False) w w1 → (w1.cell? ⟨g, 0, none⟩ = some (.bool true) ∧ w1.cell? ⟨g, 1, none⟩ = some (.string nm) ∧ w1.cell? ⟨g, 2, none⟩ = some (.int .i64 i) ∧ w1.cell? ⟨g, 3, none⟩ = some (.int .i64 j) ∧ w1.cell? ⟨g, 4, none⟩ = some v ∧ w1.cell? ⟨g, 5, none⟩ = some .nilIface)) := fun w1 o1 => by
    have hb := (o1.block g (Array.getElem?_eq_some_iff.1 hg).1 (fun g => g)).trans hg
    exact ⟨vblk_cells hb 0, vblk_cells hb 1, vblk_cells hb 2, vblk_cells hb 3, vblk_cells hb 4, vblk_cells hb 5⟩
  obtain ⟨ao, cap, hv, _⟩ := id hq
  cases Z with
  | false =>
    subst hv
    clear hq hS hsm hl hT hg hZ
    have O0 : Hid (Only (fun _ => False) w w) := Only.refl _ _
    obtain ⟨a0, a1, a2, a3, a4, a5⟩ := HK.out w (Only.refl _ _)
    go_enter Tryz.func8, Tryz.ntmps8
    go_wp2
    go_loopw [11] (fun r wr => r = .int .i64 0 ∧ wr = w) (fun r _ => 0)
    case atStart => exact ⟨rfl, rfl⟩
    case round =>
      obtain ⟨rfl, rfl⟩ := hrel
      go_wp2_with fail
      refine (show Calls Tryz.prog 20 _ _ _ from HSF.out _ (O0.out.alloc _)).mono ?_
      rintro e w1 ⟨rfl, o1⟩
      have O1 : Hid (Only (fun _ => False) wr w1) := (O0.out.alloc _).trans o1 (fun _ _ g => g)
      clear HSF o1
      go_wp2
      go_ret2
      exact ⟨_, _, rfl, O1.out⟩
  | true =>
    obtain ⟨hn, hi, hj, hs⟩ := defP_ok hZ.symm
    have hok := siP_ok hs
    obtain ⟨I, hI⟩ : ∃ I : Nat, i = (I : Int) := ⟨i.toNat, by omega⟩
    obtain ⟨J, hJ⟩ : ∃ J : Nat, j = (J : Int) := ⟨j.toNat, by omega⟩
    have HFM : Hid (∀ w1 W b bg, Only (fun _ => False) w w1 → Only (fun _ => False) w1 W → b = w1.heap.size → WuG b b (fun _ => False) bg W → Calls Tryz.prog 21 #[.pointer (some ⟨b, 0, none⟩), .agg #[.bool true, .string nm, .int .i64 i, .int .i64 j, v, .nilIface]] W (WwP w1 (fun _ => False) b W)) := fun w1 W b bg o1 o2 hb hw => by
      rw [hI, hJ]
      exact ww_form (hq.only o1) hok hsm hl (hT.frame o1) o2 (by rw [← hb]; exact hw) nm (clB_size hn) I J (by omega) (by omega)
    have HEL : Hid (∀ b bg W, WuG b b (fun _ => False) bg W → b ≤ W.heap.size → Calls Tryz.prog 22 #[.pointer (some ⟨b, 0, none⟩)] W fun e w' => e = .returned (.tuple #[]) ∧ Hid (WuG b b (fun _ => False) false w' ∧ Only (fun k => b ≤ k ∧ ¬ False) W w')) := fun b bg W h hb => wendLine_all h hb
    subst hv
    clear hq hS hsm hl hT hg hZ hn hi hj hs hok hI hJ
    have O0 : Hid (Only (fun _ => False) w w) := Only.refl _ _
    go_enter Tryz.func8, Tryz.ntmps8
    go_wp2
    go_loopw [11] (fun r wr => (r = .int .i64 0 ∧ wr = w) ∨ (r = .int .i64 1 ∧ Hid (Only (fun _ => False) w wr))) (fun r _ => 1 - vuOf r)
    case atStart => exact .inl ⟨rfl, rfl⟩
    case round =>
      rcases hrel with ⟨rfl, rfl⟩ | ⟨rfl, HO⟩
      · obtain ⟨a0, a1, a2, a3, a4, a5⟩ := HK.out wr (Only.refl _ _)
        go_wp2_with fail
        refine (show Calls Tryz.prog 20 _ _ _ from HSF.out _ (O0.out.alloc _)).mono ?_
        rintro e w1 ⟨rfl, o1⟩
        have O1 : Hid (Only (fun _ => False) wr w1) := (O0.out.alloc _).trans o1 (fun _ _ g => g)
        clear HSF o1 a0 a1 a2 a3 a4 a5
        go_wp2
        go_roundw
        case rel => exact .inr ⟨rfl, O1⟩
        case measure => simp [vuOf]
      · obtain ⟨w1, hw1⟩ : ∃ w1, w1 = wr := ⟨_, rfl⟩
        rw [← hw1] at HO ⊢
        clear hw1 HSF
        obtain ⟨b, hb⟩ : ∃ b, b = w1.heap.size := ⟨_, rfl⟩
        obtain ⟨W2, hW2⟩ : ∃ W2, W2 = w1.alloc (.cells #[.pointer none, .slice none 0 0, .bool false] 62) := ⟨_, rfl⟩
        have A2 : Hid (WuG b b (fun _ => False) false W2) := by rw [hW2]; exact wug_new hb
        have o2 : Only (fun _ => False) w1 W2 := by rw [hW2]; exact (Only.refl _ w1).alloc _
        have H2 : Hid (Only (fun _ => False) w w1 ∧ Only (fun _ => False) w1 W2 ∧ b = w1.heap.size) := ⟨HO.out, o2, hb⟩
        clear o2 HO
        go_wp2
        rw [← hb, ← hW2]
        clear hb hW2
        go_loopw [21] (fun r wr => (r = .int .i64 0 ∧ wr = W2) ∨ (r = .int .i64 1 ∧ Hid ((∃ bg, WuG b b (fun _ => False) bg wr) ∧ Only (fun _ => False) w1 wr))) (fun r _ => 1 - vuOf r)
        case atStart => exact .inl ⟨rfl, rfl⟩
        case round =>
          rcases hrel with ⟨rfl, rfl⟩ | ⟨rfl, HO⟩
          · obtain ⟨a0, a1, a2, a3, a4, a5⟩ := HK.out wr (H2.out.1.trans H2.out.2.1 (fun _ _ g => g))
            have R2 : Hid (Only (fun _ => False) wr wr) := Only.refl _ _
            go_wp2_with fail
            refine (show Calls Tryz.prog 21 _ _ _ from HFM.out w1 _ b false H2.out.1 (H2.out.2.1.trans (R2.out.alloc _) (fun _ _ g => g)) H2.out.2.2 (A2.out.only (R2.out.alloc _))).mono ?_
            rintro e w3 ⟨rfl, g3⟩
            have G3 : Hid ((∃ bg, WuG b b (fun _ => False) bg w3) ∧ Only (fun _ => False) w1 w3 ∧ b ≤ w3.heap.size) := by
              obtain ⟨g4, g5⟩ := g3.out
              rw [← H2.out.2.2] at g4 g5
              have o3 : Only (fun _ => False) w1 w3 := (H2.out.2.1.trans (R2.out.alloc _) (fun _ _ g => g)).trans g5 (fun k hk e => by have := e.1; have := H2.out.2.2; omega)
              exact ⟨g4, o3, by have := o3.size; have := H2.out.2.2; omega⟩
            clear HFM g3 a0 a1 a2 a3 a4 a5 R2
            obtain ⟨⟨bg, hbg⟩, _, hbz⟩ := G3.out
            have HE : Hid _ := HEL.out b bg w3 hbg hbz
            clear hbg hbz HEL
            go_wp2_with fail
            refine (show Calls Tryz.prog 22 _ _ _ from HE.out).mono ?_
            rintro e w4 ⟨rfl, g4⟩
            have G4 : Hid ((∃ bg, WuG b b (fun _ => False) bg w4) ∧ Only (fun _ => False) w1 w4) := ⟨⟨_, g4.out.1⟩, G3.out.2.1.trans g4.out.2 (fun k hk e => by have := e.1; have := H2.out.2.2; omega)⟩
            clear HE g4 G3
            go_wp2
            go_roundw
            case rel => exact .inr ⟨rfl, G4⟩
            case measure => simp [vuOf]
          · obtain ⟨w5, hw5⟩ : ∃ w5, w5 = wr := ⟨_, rfl⟩
            rw [← hw5] at HO ⊢
            clear hw5 HFM HEL
            obtain ⟨⟨bg, hbg⟩, o5⟩ := HO.out
            obtain ⟨s, E, hw⟩ := wwhole_all hbg (by have := o5.size; have := H2.out.2.2; omega)
            have HW : Hid _ := hw
            have O5 : Hid (Only (fun _ => False) w w5 ∧ w.heap.size ≤ b) := ⟨H2.out.1.trans o5 (fun _ _ g => g), by have := H2.out.1.size; have := H2.out.2.2; omega⟩
            clear hw hbg o5 HO
            go_wp2_with fail
            refine (show Calls Tryz.prog 19 _ _ _ from HW.out).mono ?_
            rintro e w6 ⟨rfl, b6⟩
            have O6 : Hid (Only (fun _ => False) w w6) := O5.out.1.trans (⟨b6.os, b6.tape, b6.output, b6.size, fun k hk hn => b6.block k (by omega)⟩ : Only (fun k => b ≤ k) w5 w6) (fun k hk e => by have := O5.out.2; omega)
            clear HW b6 O5
            go_wp2
            go_ret2
            exact ⟨_, _, rfl, O6.out⟩
end Go.Proofs.YtmpfbjmaiddigaaGreatDoor
namespace Go.Proofs.YtmpfbjmaiddigaaGreatDoor
open Go.RowKit Go.Lib
set_option linter.unusedSimpArgs false
set_option linter.unusedVariables false
/-- what law07.ItemsOf makes of trees -/
def ItQ (D L : Nat) (l : List Vt) (w : World) (e : Ending) (w' : World) : Prop := ∃ ao cap, e = .returned (.slice ao L cap) ∧ Hid ((∃ S, QiAt w' S (2 * D + 2) true (.slice ao L cap) (l.map (nm D true)) ∧ ∀ b, S b → b < w'.heap.size) ∧ Only (fun _ => False) w w')
/-- what Parse answers -/
def PaP (s : ByteArray) (L : Nat) (E : Int) (w : World) (x : Ending) (w' : World) : Prop := ∃ ao cap p, x = .returned (.tuple #[.slice ao L cap, .int .i64 p, .int .i64 E]) ∧ Hid (FsAt w' w.heap.size 12400 (.slice ao L cap) (parR s).1 ∧ Below w.heap.size w w')
/-- what FormTrees answers -/
def FtP (s : ByteArray) (L : Nat) (w : World) (e : Ending) (w' : World) : Prop := ∃ ao cap, e = .returned (.slice ao L cap) ∧ Hid (VfAt w' w.heap.size 12401 (.slice ao L cap) (parR s).1 ∧ Only (fun _ => False) w w')
set_option maxRecDepth 100000 in
set_option maxHeartbeats 16000000 in
theorem pkeeps_walk {D : Nat} {s : ByteArray} {l : List Vt} {aa : Option Addr} {cc : Nat} {w : World} (h : VsAt w (fun _ => True) (D + 1) l (.slice aa l.length cc)) (hl : l.length ≤ 2513169434900) (hs : ∀ x ∈ l, SmT D x) (hT : Tx w) :
    Calls Tryz.prog 3 #[.string s, .slice aa l.length cc] w fun e w' => e = .returned (.bool true) ∧ Only (fun _ => False) w w' := by
  have hN : Nog w := hT.1.1
  have HA : Hid (Calls Tryz.prog 4 #[] w fun e w' => e = .returned (.bool true) ∧ Only (fun _ => False) w w') := (awake_any w hN).mono fun e w' g => ⟨g.1, below_only g.2⟩
  obtain ⟨L0, hL0⟩ : ∃ L, L = l.length := ⟨_, rfl⟩
  have hll : (l.map (nm D true)).length = L0 := by rw [hL0]; exact List.length_map _
  have hsm2 : ∀ x ∈ l.map (nm D true), ∃ e, SmT e x := fun x hx => by
    obtain ⟨y, hy, rfl⟩ := List.mem_map.1 hx
    exact ⟨D, nm_sm D true y (hs y hy)⟩
  have HI : Hid (∀ w1, Only (fun _ => False) w w1 → Calls Tryz.prog 5 #[.slice aa L0 cc] w1 (ItQ D L0 l w1)) := fun w1 o1 => by
    have := items_all D l (.slice aa l.length cc) w1 _ (h.only o1) hl hs
    rw [← hL0] at this
    refine this.mono fun e w' g => ?_
    obtain ⟨ao, cap, he, g⟩ := g
    obtain ⟨S, q1, q2⟩ := g.out.1.qq
    exact ⟨ao, cap, he, ⟨S, q1, fun b hb => (q2 b hb).2.1⟩, g.out.2⟩
  have HT : Hid (∀ w1 w2 ao cap, (∃ S, QiAt w1 S (2 * D + 2) true (.slice ao L0 cap) (l.map (nm D true)) ∧ ∀ b, S b → b < w1.heap.size) → Only (fun _ => False) w1 w2 → Calls Tryz.prog 6 #[.slice ao L0 cap] w2 fun e w' => ∃ a2 c2, e = .returned (.slice a2 L0 c2) ∧ Hid ((∃ S, VsAt w' S (2 * D + 3) (l.map (nm D true)) (.slice a2 L0 c2)) ∧ Only (fun _ => False) w2 w')) := fun w1 w2 ao cap ⟨S, q1, q2⟩ o2 => by
    have := uitrees_any (2 * D + 2) (.slice ao L0 cap) (l.map (nm D true)) w2 S (q1.only o2) (by rw [hll, hL0]; exact hl) (fun x hx => by
      obtain ⟨y, hy, rfl⟩ := List.mem_map.1 hx
      exact ⟨D, nm_nf D true y (hs y hy)⟩)
    rw [hll] at this
    exact this.mono fun e w' g => by
      obtain ⟨a2, c2, he, g⟩ := g
      exact ⟨a2, c2, he, g.out.1.kvs, g.out.2⟩
  have HX : Hid (∀ w1 w2 ao cap, (∃ S, QiAt w1 S (2 * D + 2) true (.slice ao L0 cap) (l.map (nm D true)) ∧ ∀ b, S b → b < w1.heap.size) → Only (fun _ => False) w w2 → Only (fun _ => False) w1 w2 → Calls Tryz.prog 7 #[.slice ao L0 cap] w2 (TaP w2)) := fun w1 w2 ao cap ⟨S, q1, q2⟩ o0 o2 =>
    ptext_all (q1.only o2) (fun b hb => Nat.lt_of_lt_of_le (q2 b hb) o2.size) hsm2 (by rw [hll, hL0]; exact hl) (hT.frame o0)
  have HR : Hid (∀ w1 w2 ao cap g, (∃ S, QiAt w1 S (2 * D + 2) true (.slice ao L0 cap) (l.map (nm D true)) ∧ ∀ b, S b → b < w1.heap.size) → Only (fun _ => False) w w2 → Only (fun _ => False) w1 w2 → w2.heap[g]? = some (.cells #[.bool true, .string ⟨#[120]⟩, .int .i64 0, .int .i64 0, .slice ao L0 cap, .nilIface] 38) → Calls Tryz.prog 8 #[.slice (some ⟨g, 0, none⟩) 1 1] w2 (TaP w2)) := fun w1 w2 ao cap g ⟨S, q1, q2⟩ o0 o2 hg =>
    psource_def (q1.only o2) (fun b hb => Nat.lt_of_lt_of_le (q2 b hb) o2.size) hsm2 (by rw [hll, hL0]; exact hl) (hT.frame o0) ⟨#[120]⟩ 0 0 g hg
  have HS : Hid (∀ w1 w2 w3 va vb, (∃ S, VsAt w1 S (2 * D + 3) (l.map (nm D true)) va) → (∃ S, VsAt w2 S (2 * D + 3) (l.map (nm D true)) vb) → Only (fun _ => False) w1 w3 → Only (fun _ => False) w2 w3 → Calls Tryz.prog 9 #[va, vb] w3 fun e w' => e = .returned (.bool true) ∧ Only (fun _ => False) w3 w') := fun w1 w2 w3 va vb ⟨S1, q1⟩ ⟨S2, q2⟩ o1 o2 => by
    have := (dsame_all (2 * D + 3)).1 (l.map (nm D true)) (l.map (nm D true)) va vb w3 S1 S2 (q1.only o1) (q2.only o2) (by rw [hll, hL0]; exact hl) (by rw [hll, hL0]; exact hl) hsm2 hsm2
    rw [show 2 * D + 3 - 1 = 2 * D + 2 by omega, ksmL_self _ _ (fun x hx => by
      obtain ⟨y, hy, rfl⟩ := List.mem_map.1 hx
      exact ksaV_self _ _ ((nm_lf D true y (hs y hy)).mono (by omega)))] at this
    exact this
  obtain ⟨L, hL⟩ : ∃ L, L = (parR s).1.length := ⟨_, rfl⟩
  obtain ⟨E, hE⟩ : ∃ E, E = (parR s).2.2 := ⟨_, rfl⟩
  have HP : Hid (∀ w1, Only (fun _ => False) w w1 → Calls Tryz.prog 10 #[.string s] w1 (PaP s L E w1)) := fun w1 o1 => (parse_any s w1 (hN.frame o1)).mono fun x w' g => by
    obtain ⟨v, he, g⟩ := g
    obtain ⟨ao, cap, hv⟩ := g.out.1.form
    subst hv
    rw [← hL, ← hE] at he
    rw [← hL] at g
    exact ⟨ao, cap, _, he, g⟩
  have HFT : Hid (∀ w1 v, (∃ B, FsAt w1 B 12400 v (parR s).1) → Calls Tryz.prog 12 #[v] w1 (FtP s L w1)) := fun w1 v ⟨B, q⟩ => by
    have := ft_any s v B w1 q
    rw [← hL] at this
    exact this
  have HSF : Hid (∀ w1 va vb, (∃ B, VfAt w1 B 12401 va (parR s).1) → (∃ B, VfAt w1 B 12401 vb (parR s).1) → Calls Tryz.prog 11 #[va, vb] w1 fun e w' => e = .returned (.bool true) ∧ Only (fun _ => False) w1 w') := fun w1 va vb ⟨B1, q1⟩ ⟨B2, q2⟩ => by
    obtain ⟨S, hA⟩ := q1.read
    obtain ⟨S', hB⟩ := q2.read
    exact sameforms_any 12401 _ _ _ w1 S S' hA hB (by have := (@parR_wf s).1; omega) (fun fm hf => ⟨((@parR_wf s).2 fm hf).2.1, ((@parR_wf s).2 fm hf).2.2⟩)
  have HFL : Hid (∀ w1 B ao cap, FsAt w1 B 12400 (.slice ao L cap) (parR s).1 → ∃ S, FlA w1 S ao L ∧ ∀ b, S b → B ≤ b ∧ Liv w1 b) := fun w1 B ao cap q => q.fl hL (@parR_wf s).2
  have HLL : Hid (L ≤ 4096) := by show L ≤ 4096; rw [hL]; exact (@parR_wf s).1
  rw [← hL0]
  clear h hl hs hT hN hll hsm2 hL hE hL0
  go_enter Tryz.func3, Tryz.ntmps3
  go_wp2_with fail
  refine (show Calls Tryz.prog 4 _ _ _ from HA.out).mono ?_
  rintro e w1 ⟨rfl, o1⟩
  have O1 : Hid (Only (fun _ => False) w w1) := o1
  have HC : Hid _ := HI.out w1 o1
  clear HA HI o1
  go_wp2_with fail
  refine (show Calls Tryz.prog 5 _ _ _ from HC.out).mono ?_
  rintro e w2 ⟨ao, cap, rfl, G2⟩
  have Q2 : Hid (∃ S, QiAt w2 S (2 * D + 2) true (.slice ao L0 cap) (l.map (nm D true)) ∧ ∀ b, S b → b < w2.heap.size) := G2.out.1
  have O2 : Hid (Only (fun _ => False) w w2) := O1.out.trans G2.out.2 (fun _ _ e => e)
  clear HC O1 G2
  have HC : Hid _ := HT.out w2 w2 ao cap Q2.out (Only.refl _ _)
  go_wp2_with fail
  refine (show Calls Tryz.prog 6 _ _ _ from HC.out).mono ?_
  rintro e w3 ⟨a3, c3, rfl, G3⟩
  have HC : Hid _ := HX.out w2 w3 ao cap Q2.out (O2.out.trans G3.out.2 (fun _ _ e => e)) G3.out.2
  clear HX
  go_wp2_with fail
  refine (show Calls Tryz.prog 7 _ _ _ from HC.out).mono ?_
  rintro e w4 ⟨s4, E4, rfl, o4⟩
  obtain ⟨W4, hW4⟩ : ∃ W, W = w4.alloc (.cells #[.bool true, .string ⟨#[120]⟩, .int .i64 0, .int .i64 0, .slice ao L0 cap, .nilIface] 38) := ⟨_, rfl⟩
  obtain ⟨b4, hb4⟩ : ∃ b, b = w4.heap.size := ⟨_, rfl⟩
  have oW4 : Only (fun _ => False) w4 W4 := by rw [hW4]; exact (Only.refl _ w4).alloc _
  have o34 : Only (fun _ => False) w3 W4 := o4.trans oW4 (fun _ _ e => e)
  have o24 : Only (fun _ => False) w2 W4 := G3.out.2.trans o34 (fun _ _ e => e)
  have HC : Hid _ := HR.out w2 W4 ao cap b4 Q2.out (O2.out.trans o24 (fun _ _ e => e)) o24 (by rw [hW4]; exact va_at _ _ _ hb4)
  have O4 : Hid (Only (fun _ => False) w2 W4 ∧ Only (fun _ => False) w3 W4) := ⟨o24, o34⟩
  clear HR o4 oW4 o34 o24
  go_wp2_with fail
  rw [← hb4, ← hW4]
  clear hb4 hW4
  refine (show Calls Tryz.prog 8 _ _ _ from HC.out).mono ?_
  rintro e w5 ⟨s5, E5, rfl, o5⟩
  have O5 : Hid (Only (fun _ => False) w2 w5 ∧ Only (fun _ => False) w3 w5) := ⟨O4.out.1.trans o5 (fun _ _ e => e), O4.out.2.trans o5 (fun _ _ e => e)⟩
  clear HC o5 O4
  have HC : Hid _ := HT.out w2 w5 ao cap Q2.out O5.out.1
  clear HT
  go_wp2_with fail
  refine (show Calls Tryz.prog 6 _ _ _ from HC.out).mono ?_
  rintro e w6 ⟨a6, c6, rfl, G6⟩
  clear HC
  have HC : Hid _ := HS.out w6 w3 w6 (.slice a6 L0 c6) (.slice a3 L0 c3) G6.out.1 G3.out.1 (Only.refl _ _) (O5.out.2.trans G6.out.2 (fun _ _ e => e))
  have O6 : Hid (Only (fun _ => False) w w6) := (O2.out.trans O5.out.1 (fun _ _ e => e)).trans G6.out.2 (fun _ _ e => e)
  clear HS G6 G3 O5 O2 Q2
  go_wp2_with fail
  refine (show Calls Tryz.prog 9 _ _ _ from HC.out).mono ?_
  rintro e w7 ⟨rfl, o7⟩
  have O7 : Hid (Only (fun _ => False) w w7) := O6.out.trans o7 (fun _ _ e => e)
  clear HC o7 O6
  have HC : Hid _ := HP.out w7 O7.out
  go_wp2_with fail
  refine (show Calls Tryz.prog 10 _ _ _ from HC.out).mono ?_
  rintro e w8 ⟨aA, cA, pA, rfl, G8⟩
  clear HC
  obtain ⟨S, f8, s8⟩ := HFL.out w8 _ aA cA G8.out.1
  have O8 : Hid (Only (fun _ => False) w w8) := O7.out.trans (below_only G8.out.2) (fun _ _ e => e)
  have S8 : Hid ((∀ b, S b → w.heap.size ≤ b) ∧ (∀ b, S b → b < w8.heap.size) ∧ ∀ b, S b → Liv w8 b) := ⟨fun b hb => Nat.le_trans O7.out.size (s8 b hb).1, fun b hb => (s8 b hb).2.1, fun b hb => (s8 b hb).2⟩
  have F8 : Hid (FlA w8 S aA L) := f8
  have A8 : Hid (∃ B, FsAt w8 B 12400 (.slice aA L cA) (parR s).1) := ⟨_, G8.out.1⟩
  clear f8 s8 G8 HFL O7
  have HC : Hid _ := HP.out w8 O8.out
  clear HP
  go_wp2_with fail
  refine (show Calls Tryz.prog 10 _ _ _ from HC.out).mono ?_
  rintro e w9 ⟨aB, cB, pB, rfl, G9⟩
  clear HC
  have o89 := below_only G9.out.2
  have A9 : Hid (∃ B, FsAt w9 B 12400 (.slice aA L cA) (parR s).1) := by
    obtain ⟨B, q⟩ := A8.out
    exact ⟨B, q.only o89 (fun _ _ e => e)⟩
  have B9 : Hid (FsAt w9 w8.heap.size 12400 (.slice aB L cB) (parR s).1) := G9.out.1
  have O9 : Hid (Only (fun _ => False) w8 w9) := o89
  clear A8 G9 o89
  have HC : Hid _ := HFT.out w9 _ A9.out
  clear A9
  have hEE : (E != E) = false := by simp
  go_wp2_with fail
  refine (show Calls Tryz.prog 12 _ _ _ from HC.out).mono ?_
  rintro e w10 ⟨a10, c10, rfl, G10⟩
  clear HC
  have B10 : Hid (FsAt w10 w8.heap.size 12400 (.slice aB L cB) (parR s).1) := B9.out.only G10.out.2 (fun _ _ e => e)
  have HC : Hid _ := HFT.out w10 _ ⟨_, B10.out⟩
  have O10 : Hid (Only (fun _ => False) w8 w10) := O9.out.trans G10.out.2 (fun _ _ e => e)
  clear B9 O9
  go_wp2_with fail
  refine (show Calls Tryz.prog 12 _ _ _ from HC.out).mono ?_
  rintro e w11 ⟨a11, c11, rfl, G11⟩
  clear HC
  have HC : Hid _ := HSF.out w11 _ _ ⟨_, G10.out.1.only G11.out.2 (fun _ _ e => e)⟩ ⟨_, G11.out.1⟩
  have B11 : Hid (FsAt w11 w8.heap.size 12400 (.slice aB L cB) (parR s).1) := B10.out.only G11.out.2 (fun _ _ e => e)
  have O11 : Hid (Only (fun _ => False) w8 w11) := O10.out.trans G11.out.2 (fun _ _ e => e)
  clear B10 O10 G10 G11
  go_wp2_with fail
  refine (show Calls Tryz.prog 11 _ _ _ from HC.out).mono ?_
  rintro e w12 ⟨rfl, o12⟩
  clear HC hEE
  have B12 : Hid (FsAt w12 w8.heap.size 12400 (.slice aB L cB) (parR s).1) := B11.out.only o12 (fun _ _ e => e)
  have HC : Hid _ := HFT.out w12 _ ⟨_, B12.out⟩
  have O12 : Hid (Only (fun _ => False) w8 w12) := O11.out.trans o12 (fun _ _ e => e)
  clear B11 O11 o12
  go_wp2_with fail
  refine (show Calls Tryz.prog 12 _ _ _ from HC.out).mono ?_
  rintro e w13 ⟨a13, c13, rfl, G13⟩
  clear HC
  have O13 : Hid (Only (fun _ => False) w8 w13) := O12.out.trans G13.out.2 (fun _ _ e => e)
  have K13 : Hid (FsAt w13 w8.heap.size 12400 (.slice aB L cB) (parR s).1 ∧ VfAt w13 w8.heap.size 12401 (.slice a13 L c13) (parR s).1) := ⟨B12.out.only G13.out.2 (fun _ _ e => e), G13.out.1.lower O12.out.size⟩
  clear B12 O12 G13
  have HE : Hid (∀ w1, Spl S w13 w1 → FlA w1 S aA L ∧ ∀ b, S b → Liv w1 b) := fun w1 s1 => by
    have s2 : Spl S w8 w1 := (Spl.of O13.out).trans s1
    exact ⟨F8.out.keep s2, fun b hb => s2.2.1 b hb (S8.out.2.2 b hb)⟩
  have HZ : Hid (∀ w1, Spl S w13 w1 → FsAt w1 w8.heap.size 12400 (.slice aB L cB) (parR s).1 ∧ VfAt w1 w8.heap.size 12401 (.slice a13 L c13) (parR s).1 ∧ Only (fun _ => False) w w1) := fun w1 s1 => by
    have hb : ∀ b, w8.heap.size ≤ b → ¬ S b := fun b hb hs => by have := S8.out.2.1 b hs; omega
    exact ⟨K13.out.1.only s1.1 hb, K13.out.2.only s1.1 hb, (O8.out.trans O13.out (fun _ _ e => e)).trans s1.1 (fun k hk hs => by have := S8.out.1 k hs; omega)⟩
  clear F8 K13 O13 O8 S8
  go_wp2
  go_loopw [14] (fun r wr => ∃ j : Nat, r = .int .i64 (j : Int) ∧ j ≤ L ∧ Hid (Spl S w13 wr)) (fun r _ => L - vuOf r)
  case atStart => exact ⟨0, rfl, Nat.zero_le _, Spl.of (Only.refl _ _)⟩
  case round =>
    obtain ⟨j, rfl, hj, HJ⟩ := hrel
    obtain ⟨v1, hv1⟩ : ∃ v1, v1 = wr := ⟨_, rfl⟩
    rw [← hv1] at HJ ⊢
    clear hv1
    by_cases hjL : j < L
    · obtain ⟨g, bo, n, cp, iv, rfl, hng, c4, c5, hbd, hiv⟩ := (HE.out v1 HJ.out).1 j hjL
      have i1 : (j : Int) < (L : Int) := by omega
      have i0 : (0 : Int) ≤ (j : Int) := by omega
      have i4 : j ≤ 4096 := by have := HLL.out; omega
      have HJL : Hid (j < L) := hjL
      have hsh := hiv.shape
      have HC : Hid _ := sq_all hiv (HE.out v1 HJ.out).2
      have HB : Hid (∀ v2, Spl S v1 v2 → v2.cell? ⟨g, j * 6 + 4, none⟩ = some (.slice bo n cp) ∧ BdA v2 S bo n) := fun v2 s2 => ⟨s2.1.cell c4 hng, hbd.keep s2⟩
      have HLI : Hid (∀ v2, Spl S v1 v2 → ∀ b, S b → Liv v2 b) := fun v2 s2 => (HE.out v2 (HJ.out.trans s2)).2
      have HNN : Hid (n ≤ 4096) := hbd.1
      clear hiv hbd hjL hj hng c4
      rcases hsh with rfl | ⟨T, y, rfl⟩
      all_goals
        go_wp2_with fail
        refine (show Calls Tryz.prog 13 _ _ _ from HC.out).mono ?_
        rintro e v2 ⟨rfl, G2⟩
        clear HC c5
        go_wp2
        go_loopw [15] (fun r wr => ∃ k : Nat, r = .int .i64 (k : Int) ∧ k ≤ n ∧ Hid (Spl S v1 wr)) (fun r _ => n - vuOf r)
        case atStart => exact ⟨0, rfl, Nat.zero_le _, G2⟩
        case round =>
          obtain ⟨k, rfl, hk, HK⟩ := hrel
          obtain ⟨v3, hv3⟩ : ∃ v3, v3 = wr := ⟨_, rfl⟩
          rw [← hv3] at HK ⊢
          clear hv3
          obtain ⟨d4, hbd⟩ := HB.out v3 HK.out
          by_cases hkn : k < n
          · obtain ⟨g', q, z, rfl, h2, h3, h4⟩ := hbd.2 k hkn
            have k1 : (k : Int) < (n : Int) := by omega
            have k0 : (0 : Int) ≤ (k : Int) := by omega
            have k4 : k ≤ 4096 := by have := HNN.out; omega
            have HKN : Hid (k < n) := hkn
            have hsh2 := h4.shape
            have HC : Hid _ := sq_all h4 (HLI.out v3 HK.out)
            clear hbd h2 h4 hkn hk
            rcases hsh2 with rfl | ⟨T2, y2, rfl⟩
            all_goals
              go_wp2_with fail
              refine (show Calls Tryz.prog 13 _ _ _ from HC.out).mono ?_
              rintro e v4 ⟨rfl, G4⟩
              have s4 : Spl S v1 v4 := HK.out.trans G4.out
              obtain ⟨d5, hbd5⟩ := HB.out v4 s4
              obtain ⟨g5, q5, z5, e5, f2, f3, f4⟩ := hbd5.2 k HKN.out
              obtain ⟨rfl, rfl⟩ : g' = g5 ∧ q = q5 := by simpa using e5
              have fz := (HLI.out v4 s4 _ f2).froz (q + k)
              have H3 : Hid (Spl S v1 (v4.setCell ⟨g', q + k, none⟩ Lcall)) := s4.trans (Spl.set f2 (HLI.out v4 s4 _ f2) f3 lfv_call)
              unfold Lcall at H3
              clear HC HK G4 s4 hbd5 e5 f2 f4 d4 h3
              go_wp2
              go_roundw
              case rel => exact ⟨k + 1, by go_num, by have := HKN.out; omega, H3⟩
              case measure => simp only [vuOf]; have := HKN.out; omega
          · obtain rfl : k = n := by omega
            have k1 : ¬ (k : Int) < (k : Int) := by omega
            have H3 : Hid (Spl S w13 v3) := HJ.out.trans HK.out
            clear hbd hkn hk HK HB HLI
            go_wp2
            go_roundw
            case rel => exact ⟨j + 1, by go_num, by have := HJL.out; omega, H3⟩
            case measure => simp only [vuOf]; have := HJL.out; omega
    · obtain rfl : j = L := by omega
      have i1 : ¬ (j : Int) < (j : Int) := by omega
      obtain ⟨z1, z2, z3⟩ := HZ.out v1 HJ.out
      have HC : Hid _ := HFT.out v1 _ ⟨_, z1⟩
      have Z1 : Hid (VfAt v1 w8.heap.size 12401 (.slice a13 j c13) (parR s).1 ∧ Only (fun _ => False) w v1) := ⟨z2, z3⟩
      clear z1 z2 z3 hjL hj HJ HE HZ HFT
      go_wp2_with fail
      refine (show Calls Tryz.prog 12 _ _ _ from HC.out).mono ?_
      rintro e v2 ⟨a2, c2, rfl, G2⟩
      clear HC
      have HC : Hid _ := HSF.out v2 _ _ ⟨_, G2.out.1⟩ ⟨_, Z1.out.1.only G2.out.2 (fun _ _ e => e)⟩
      have Z2 : Hid (Only (fun _ => False) w v2) := Z1.out.2.trans G2.out.2 (fun _ _ e => e)
      clear G2 Z1 HSF
      go_wp2_with fail
      refine (show Calls Tryz.prog 11 _ _ _ from HC.out).mono ?_
      rintro e v3 ⟨rfl, o3⟩
      have Z3 : Hid (Only (fun _ => False) w v3) := Z2.out.trans o3 (fun _ _ e => e)
      clear HC o3 Z2
      go_wp2
      go_ret
      exact ⟨rfl, Z3.out⟩
end Go.Proofs.YtmpfbjmaiddigaaGreatDoor
