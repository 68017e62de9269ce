/- Trees that are the same: Same, SameAll. Forms that are the same: SameDef, SameForms. Rows of the document's forms, one behind the other. A measure of a value, of an item; all of them. A measure of a list, of a quotation, of an item; of all. The measure of values: a list of two, a quotation of one. The measure of values: a list of two, a quotation of one; Check. Check of what is not sound. A measure of an item; of all values and items; measured, Check, CheckItems. measured, Check, CheckItems, Size: of any value. When two values that hold no others are equal. Equal values: the plain function; slices.EqualFunc. -/
import Derived.Test.YtmpfbjmaiddigaaGreatDoorGaq
import Derived.Test.YtmpfbjmaiddigaaGreatDoorGap
import Derived.Test.YtmpfbjmaiddigaaGreatDoorGag
import Derived.Laws.StructEq
namespace Go.Proofs.YtmpfbjmaiddigaaGreatDoor
open Go.RowKit
set_option linter.unusedSimpArgs false
set_option linter.unusedVariables false
/-- the parts of one tree, twice -/
def SaC (d : Nat) : Prop := ∀ (t : Tre) (la lb : Value) (w : World) (S S' : Nat → Prop), VtAt w S d t la → VtAt w S' d t lb → (∃ e, WfT e t) → Calls Tryz.prog 9 #[la, lb] w fun e w' => e = .returned (.bool true) ∧ Only (fun _ => False) w w'
/-- one tree, twice -/
def SmC (d : Nat) : Prop := ∀ (t : Tre) (la lb : Value) (w : World) (S S' : Nat → Prop), VtAt w S d t la → VtAt w S' d t lb → (∃ e, WfT e t) → Calls Tryz.prog 23 #[.agg #[.int .i64 (t.k : Int), .int .i64 (vn t), .string (vs t), la], .agg #[.int .i64 (t.k : Int), .int .i64 (vn t), .string (vs t), lb]] w fun e w' => e = .returned (.bool true) ∧ Only (fun _ => False) w w'
theorem VtAt.form {w : World} {S : Nat → Prop} {d : Nat} {t : Tre} {lv : Value} (h : VtAt w S d t lv) : ∃ ao cap, lv = .slice ao t.l.length cap := by
  cases d with
  | zero => exact h.elim
  | succ d => obtain ⟨ao, cap, hv, _⟩ := h; exact ⟨ao, cap, hv⟩
set_option maxRecDepth 100000 in
set_option maxHeartbeats 4000000 in
theorem same_walk (x0 x1 : Int) (x2 : ByteArray) (a1 a2 : Option Addr) (L c1 c2 : Nat) (w : World) (HC0 : ∀ w1, Only (fun _ => False) w w1 → Calls Tryz.prog 9 #[.slice a1 L c1, .slice a2 L c2] w1 fun e w' => e = .returned (.bool true) ∧ Only (fun _ => False) w1 w') :
    Calls Tryz.prog 23 #[.agg #[.int .i64 x0, .int .i64 x1, .string x2, .slice a1 L c1], .agg #[.int .i64 x0, .int .i64 x1, .string x2, .slice a2 L c2]] w fun e w' => e = .returned (.bool true) ∧ Only (fun _ => False) w w' := by
  have HC : Hid (∀ w1, Only (fun _ => False) w w1 → Calls Tryz.prog 9 #[.slice a1 L c1, .slice a2 L c2] w1 fun e w' => e = .returned (.bool true) ∧ Only (fun _ => False) w1 w') := HC0
  have O0 : Hid (Only (fun _ => False) w w) := Only.refl _ _
  clear HC0
  go_enter Tryz.func23, Tryz.ntmps23
  go_wp2_with fail
  all_goals
    refine (show Calls Tryz.prog 9 _ _ _ from HC.out _ ((O0.out.alloc _).alloc _)).mono ?_
    rintro e w1 ⟨rfl, o1⟩
    have O1 : Hid (Only (fun _ => False) w w1) := ((O0.out.alloc _).alloc _).trans o1 (fun _ _ g => g)
    clear HC o1
    go_wp2
    go_ret
    exact ⟨rfl, O1.out⟩
theorem same_of (d : Nat) (H : SaC d) : SmC d := by
  intro t la lb w S S' h1 h2 hw
  obtain ⟨a1, c1, rfl⟩ := h1.form
  obtain ⟨a2, c2, rfl⟩ := h2.form
  exact same_walk _ _ _ a1 a2 t.l.length c1 c2 w fun w1 o1 => H t _ _ w1 S S' (h1.step (fun _ g => g) (fun a u _ hc => o1.cell hc (fun g => g)) (Nat.le_refl _)) (h2.step (fun _ g => g) (fun a u _ hc => o1.cell hc (fun g => g)) (Nat.le_refl _)) hw
set_option maxRecDepth 100000 in
set_option maxHeartbeats 40000000 in
theorem sameall_of (d : Nat) (H : SmC d) : SaC (d + 1) := by
  intro t la lb w S S' h1 h2 hw
  obtain ⟨aa, ca, rfl, hca, ha⟩ := h1
  obtain ⟨ab, cb, rfl, hcb, hb⟩ := h2
  obtain ⟨e, hw⟩ := hw
  cases e with
  | zero => exact hw.elim
  | succ e =>
    have HE : Hid (∀ (j : Nat) (x : Tre), t.l[j]? = some x → ∃ g k lx g' k' lx', aa = some ⟨g, k, none⟩ ∧ ab = some ⟨g', k', none⟩ ∧ (w.cell? ⟨g, k + j * 4, none⟩ = some (.int .i64 (x.k : Int)) ∧ w.cell? ⟨g, k + j * 4 + 1, none⟩ = some (.int .i64 (vn x)) ∧ w.cell? ⟨g, k + j * 4 + 2, none⟩ = some (.string (vs x)) ∧ w.cell? ⟨g, k + j * 4 + 3, none⟩ = some lx) ∧ (w.cell? ⟨g', k' + j * 4, none⟩ = some (.int .i64 (x.k : Int)) ∧ w.cell? ⟨g', k' + j * 4 + 1, none⟩ = some (.int .i64 (vn x)) ∧ w.cell? ⟨g', k' + j * 4 + 2, none⟩ = some (.string (vs x)) ∧ w.cell? ⟨g', k' + j * 4 + 3, none⟩ = some lx') ∧ ∀ w1, Only (fun _ => False) w w1 → Calls Tryz.prog 23 #[.agg #[.int .i64 (x.k : Int), .int .i64 (vn x), .string (vs x), lx], .agg #[.int .i64 (x.k : Int), .int .i64 (vn x), .string (vs x), lx']] w1 fun e w' => e = .returned (.bool true) ∧ Only (fun _ => False) w1 w') := by
      intro j x hx
      obtain ⟨g, k, lx, p1, p2, p3, p4⟩ := ha j x hx
      obtain ⟨g', k', lx', q1, q2, q3, q4⟩ := hb j x hx
      exact ⟨g, k, lx, g', k', lx', p1, q1, p3, q3, fun w1 o1 => H x lx lx' w1 S S' (p4.step (fun _ g => g) (fun a u _ hc => o1.cell hc (fun g => g)) (Nat.le_refl _)) (q4.step (fun _ g => g) (fun a u _ hc => o1.cell hc (fun g => g)) (Nat.le_refl _)) ⟨e, hw.2 x (List.mem_of_getElem? hx)⟩⟩
    have HLB : Hid (t.l.length ≤ 4096) := hw.1
    clear ha hb hw H hca hcb
    obtain ⟨N, hN⟩ : ∃ N, N = t.l.length := ⟨_, rfl⟩
    have HNN : Hid (N = t.l.length) := hN
    rw [← hN]
    clear hN
    go_enter Tryz.func9, Tryz.ntmps9
    go_wp2
    go_loopw [5] (fun r5 wr => ∃ i : Nat, r5 = .int .i64 (i : Int) ∧ i ≤ N ∧ Hid (Only (fun _ => False) w wr)) (fun r5 _ => N - uOf r5)
    case atStart => exact ⟨0, rfl, Nat.zero_le _, Only.refl _ _⟩
    case round =>
      obtain ⟨i, rfl, hi, HI⟩ := hrel
      obtain ⟨w1, rfl⟩ : ∃ w1, w1 = wr := ⟨_, rfl⟩
      have hNl : N = t.l.length := HNN.out
      have hN4 : t.l.length ≤ 4096 := HLB.out
      by_cases hiN : i < N
      · obtain ⟨x, hx⟩ : ∃ x, t.l[i]? = some x := ⟨t.l[i]'(by omega), List.getElem?_eq_getElem (by omega)⟩
        obtain ⟨g, k, lx, g', k', lx', rfl, rfl, ⟨h0, h1, h2, h3⟩, ⟨h4, h5, h6, h7⟩, hcall⟩ := HE.out i x hx
        have o1 := HI.out
        have HS : Hid (∀ w', Only (fun _ => False) w1 w' → (w'.cell? ⟨g, k + i * 4, none⟩ = some (.int .i64 (x.k : Int)) ∧ w'.cell? ⟨g, k + i * 4 + 1, none⟩ = some (.int .i64 (vn x)) ∧ w'.cell? ⟨g, k + i * 4 + 2, none⟩ = some (.string (vs x)) ∧ w'.cell? ⟨g, k + i * 4 + 3, none⟩ = some lx) ∧ (w'.cell? ⟨g', k' + i * 4, none⟩ = some (.int .i64 (x.k : Int)) ∧ w'.cell? ⟨g', k' + i * 4 + 1, none⟩ = some (.int .i64 (vn x)) ∧ w'.cell? ⟨g', k' + i * 4 + 2, none⟩ = some (.string (vs x)) ∧ w'.cell? ⟨g', k' + i * 4 + 3, none⟩ = some lx')) := fun w' o => by
          have oo := o1.trans o (fun _ _ g => g)
          exact ⟨⟨oo.cell h0 (fun g => g), oo.cell h1 (fun g => g), oo.cell h2 (fun g => g), oo.cell h3 (fun g => g)⟩, ⟨oo.cell h4 (fun g => g), oo.cell h5 (fun g => g), oo.cell h6 (fun g => g), oo.cell h7 (fun g => g)⟩⟩
        have HCC : Hid (∀ w1, Only (fun _ => False) w w1 → Calls Tryz.prog 23 #[.agg #[.int .i64 (x.k : Int), .int .i64 (vn x), .string (vs x), lx], .agg #[.int .i64 (x.k : Int), .int .i64 (vn x), .string (vs x), lx']] w1 fun e w' => e = .returned (.bool true) ∧ Only (fun _ => False) w1 w') := hcall
        obtain ⟨⟨c0, c1, c2, c3⟩, ⟨c4, c5, c6, c7⟩⟩ := HS.out w1 (Only.refl _ _)
        have HB : Hid (i < N ∧ N ≤ 4096) := ⟨hiN, by omega⟩
        have i1 : (i : Int) < (N : Int) := by omega
        have i0 : (0 : Int) ≤ (i : Int) := by omega
        have hi4 : i ≤ 4096 := by omega
        obtain ⟨x0, hx0⟩ : ∃ x0, x0 = (x.k : Int) := ⟨_, rfl⟩
        obtain ⟨x1, hx1⟩ : ∃ x1, x1 = vn x := ⟨_, rfl⟩
        obtain ⟨x2, hx2⟩ : ∃ x2, x2 = vs x := ⟨_, rfl⟩
        rw [← hx0, ← hx1, ← hx2] at HCC HS
        rw [← hx0] at c0 c4
        rw [← hx1] at c1 c5
        rw [← hx2] at c2 c6
        clear hx0 hx1 hx2 HE h0 h1 h2 h3 h4 h5 h6 h7 hcall o1 hx hNl hN4 hi hiN
        go_wp2_with fail
        have OR : Hid (Only (fun _ => False) w1 w1) := Only.refl _ _
        go_region_held3 (fun w' => (w'.cell? ⟨g, k + i * 4, none⟩ = some (.int .i64 x0) ∧ w'.cell? ⟨g, k + i * 4 + 1, none⟩ = some (.int .i64 x1) ∧ w'.cell? ⟨g, k + i * 4 + 2, none⟩ = some (.string x2) ∧ w'.cell? ⟨g, k + i * 4 + 3, none⟩ = some lx) ∧ (w'.cell? ⟨g', k' + i * 4, none⟩ = some (.int .i64 x0) ∧ w'.cell? ⟨g', k' + i * 4 + 1, none⟩ = some (.int .i64 x1) ∧ w'.cell? ⟨g', k' + i * 4 + 2, none⟩ = some (.string x2) ∧ w'.cell? ⟨g', k' + i * 4 + 3, none⟩ = some lx'))
          (first
            | with_reducible exact HS.out _ OR.out.drew
            | with_reducible exact HS.out _ O2.out)
          (first | (go_at_call 23; refine (show Calls Tryz.prog 23 _ _ _ from HCC.out _ HI.out.drew).mono ?_; rintro ex w2 ⟨rfl, o2⟩; have O2 : Hid (Only (fun _ => False) w1 w2) := OR.out.drew.trans o2 (fun _ _ g => g)))
        have HK : Hid (Only (fun _ => False) w w2) := HI.out.trans O2.out (fun _ _ g => g)
        clear HI O2 OR HS HCC c0 c1 c2 c3 c4 c5 c6 c7 o2
        go_wp2
        go_roundw
        case rel => exact ⟨i + 1, by go_num, by have := HB.out; omega, HK⟩
        case measure => simp only [uOf]; have := HB.out; omega
      · obtain rfl : i = N := by omega
        have i1 : ¬ (i : Int) < (i : Int) := by omega
        clear HE hNl hN4 hi hiN
        go_wp2
        go_ret
        exact ⟨rfl, HI.out⟩
theorem sameT_any : ∀ (d : Nat), SaC d ∧ SmC d
  | 0 => ⟨fun t la lb w S S' h => h.elim, fun t la lb w S S' h => h.elim⟩
  | d + 1 => ⟨sameall_of d (sameT_any d).2, same_of (d + 1) (sameall_of d (sameT_any d).2)⟩
end Go.Proofs.YtmpfbjmaiddigaaGreatDoor
namespace Go.Proofs.YtmpfbjmaiddigaaGreatDoor
open Go.RowKit
set_option linter.unusedSimpArgs false
set_option linter.unusedVariables false
set_option maxRecDepth 100000 in
set_option maxHeartbeats 4000000 in
theorem samedef_walk (nm : ByteArray) (x y : Int) (a1 a2 : Option Addr) (L c1 c2 : Nat) (w : World) (HC0 : ∀ w1, Only (fun _ => False) w w1 → Calls Tryz.prog 9 #[.slice a1 L c1, .slice a2 L c2] w1 fun e w' => e = .returned (.bool true) ∧ Only (fun _ => False) w1 w') :
    Calls Tryz.prog 26 #[.agg #[.string nm, .int .i64 x, .int .i64 y, .slice a1 L c1], .agg #[.string nm, .int .i64 x, .int .i64 y, .slice a2 L c2]] w fun e w' => e = .returned (.bool true) ∧ Only (fun _ => False) w w' := by
  have HC : Hid (∀ w1, Only (fun _ => False) w w1 → Calls Tryz.prog 9 #[.slice a1 L c1, .slice a2 L c2] w1 fun e w' => e = .returned (.bool true) ∧ Only (fun _ => False) w1 w') := HC0
  have O0 : Hid (Only (fun _ => False) w w) := Only.refl _ _
  clear HC0
  go_enter Tryz.func26, Tryz.ntmps26
  go_wp2_with fail
  refine (show Calls Tryz.prog 9 _ _ _ from HC.out _ ((O0.out.alloc _).alloc _)).mono ?_
  rintro e w1 ⟨rfl, o1⟩
  have O1 : Hid (Only (fun _ => False) w w1) := ((O0.out.alloc _).alloc _).trans o1 (fun _ _ g => g)
  clear HC o1
  go_wp2
  go_ret
  exact ⟨rfl, O1.out⟩
/-- a slice of the document's forms that can be read -/
def VfQ (w : World) (S : Nat → Prop) (d : Nat) (v : Value) (l : List Fm) : Prop :=
  ∃ ao cap, v = .slice ao l.length cap ∧ ∀ (j : Nat) (fm : Fm), l[j]? = some fm → ∃ g k bl il, ao = some ⟨g, k, none⟩ ∧ (∀ i u, (fC fm bl il)[i]? = some u → w.cell? ⟨g, k + j * 9 + i, none⟩ = some u) ∧ VtAt w S d (bdT fm) bl ∧ VtAt w S d fm.it il
theorem VfAt.read {w : World} {B d : Nat} {v : Value} {l : List Fm} (h : VfAt w B d v l) : ∃ S, VfQ w S d v l := by
  obtain ⟨us, S, ho, ht, hS⟩ := h
  refine ⟨S, ?_⟩
  rcases ho.2 with ⟨rfl, h2⟩ | ⟨g, cap, cur, hv, hB, hg, hn, hcm, hcs, htk⟩
  · have : l = [] := List.eq_nil_of_length_eq_zero h2
    subst this
    exact ⟨none, 0, rfl, fun j fm hj => by simp at hj⟩
  · refine ⟨some ⟨g, 0, none⟩, cap, hv, fun j fm hj => ?_⟩
    obtain ⟨bl, il, h0, h1, h2⟩ := ht j fm hj
    refine ⟨g, 0, bl, il, rfl, fun i u hu => ?_, h1, h2⟩
    have := ho.cells (g := g) (by rw [hv]; rfl) _ u (h0 i u hu)
    rw [addr_ad] at this
    rw [Nat.zero_add]
    exact this
theorem VfQ.only {w w' : World} {S : Nat → Prop} {d : Nat} {v : Value} {l : List Fm} (h : VfQ w S d v l) (o : Only (fun _ => False) w w') : VfQ w' S d v l := by
  obtain ⟨ao, cap, hv, hl⟩ := h
  refine ⟨ao, cap, hv, fun j fm hj => ?_⟩
  obtain ⟨g, k, bl, il, ha, h0, h1, h2⟩ := hl j fm hj
  exact ⟨g, k, bl, il, ha, fun i u hu => o.cell (h0 i u hu) (fun g => g), h1.step (fun _ g => g) (fun a u _ hc => o.cell hc (fun g => g)) (Nat.le_refl _), h2.step (fun _ g => g) (fun a u _ hc => o.cell hc (fun g => g)) (Nat.le_refl _)⟩
set_option maxRecDepth 100000 in
set_option maxHeartbeats 40000000 in
theorem sameforms_any (d : Nat) (l : List Fm) (va vb : Value) (w : World) (S S' : Nat → Prop) (h1 : VfQ w S d va l) (h2 : VfQ w S' d vb l) (hl : l.length ≤ 8192) (hw : ∀ fm ∈ l, (∃ e, WfT e (bdT fm)) ∧ ∃ e, WfT e fm.it) : Calls Tryz.prog 11 #[va, vb] w fun e w' => e = .returned (.bool true) ∧ Only (fun _ => False) w w' := by
  obtain ⟨aa, ca, rfl, ha⟩ := h1
  obtain ⟨ab, cb, rfl, hb⟩ := h2
  have HE : Hid (∀ (j : Nat) (fm : Fm), l[j]? = some fm → ∃ g k g' k' a1 c1 a2 c2 b1 e1 b2 e2, aa = some ⟨g, k, none⟩ ∧ ab = some ⟨g', k', none⟩ ∧ (∀ i u, (fC fm (.slice a1 fm.b.length c1) (.slice a2 fm.it.l.length c2))[i]? = some u → w.cell? ⟨g, k + j * 9 + i, none⟩ = some u) ∧ (∀ i u, (fC fm (.slice b1 fm.b.length e1) (.slice b2 fm.it.l.length e2))[i]? = some u → w.cell? ⟨g', k' + j * 9 + i, none⟩ = some u) ∧ (∀ w1, Only (fun _ => False) w w1 → Calls Tryz.prog 26 #[.agg #[.string fm.nm, .int .i64 (fm.i : Int), .int .i64 (fm.j : Int), .slice a1 fm.b.length c1], .agg #[.string fm.nm, .int .i64 (fm.i : Int), .int .i64 (fm.j : Int), .slice b1 fm.b.length e1]] w1 fun e w' => e = .returned (.bool true) ∧ Only (fun _ => False) w1 w') ∧ (∀ w1, Only (fun _ => False) w w1 → Calls Tryz.prog 23 #[.agg #[.int .i64 (fm.it.k : Int), .int .i64 (vn fm.it), .string (vs fm.it), .slice a2 fm.it.l.length c2], .agg #[.int .i64 (fm.it.k : Int), .int .i64 (vn fm.it), .string (vs fm.it), .slice b2 fm.it.l.length e2]] w1 fun e w' => e = .returned (.bool true) ∧ Only (fun _ => False) w1 w')) := by
    intro j fm hx
    obtain ⟨g, k, bl, il, p1, p2, p3, p4⟩ := ha j fm hx
    obtain ⟨g', k', bl', il', q1, q2, q3, q4⟩ := hb j fm hx
    obtain ⟨w1, w2⟩ := hw fm (List.mem_of_getElem? hx)
    obtain ⟨a1, c1, rfl⟩ := p3.form
    obtain ⟨a2, c2, rfl⟩ := p4.form
    obtain ⟨b1, e1, rfl⟩ := q3.form
    obtain ⟨b2, e2, rfl⟩ := q4.form
    refine ⟨g, k, g', k', a1, c1, a2, c2, b1, e1, b2, e2, p1, q1, p2, q2, fun w1' o1 => samedef_walk _ _ _ a1 b1 _ c1 e1 w1' fun w3 o3 => ?_, fun w1' o1 => ?_⟩
    · have oo := o1.trans o3 (fun _ _ g => g)
      exact (sameT_any d).1 (bdT fm) _ _ w3 S S' (p3.step (fun _ g => g) (fun a u _ hc => oo.cell hc (fun g => g)) (Nat.le_refl _)) (q3.step (fun _ g => g) (fun a u _ hc => oo.cell hc (fun g => g)) (Nat.le_refl _)) w1
    · exact (sameT_any d).2 fm.it _ _ w1' S S' (p4.step (fun _ g => g) (fun a u _ hc => o1.cell hc (fun g => g)) (Nat.le_refl _)) (q4.step (fun _ g => g) (fun a u _ hc => o1.cell hc (fun g => g)) (Nat.le_refl _)) w2
  have HLB : Hid (l.length ≤ 8192) := hl
  clear ha hb hw
  obtain ⟨N, hN⟩ : ∃ N, N = l.length := ⟨_, rfl⟩
  have HNN : Hid (N = l.length) := hN
  rw [← hN]
  clear hN hl
  go_enter Tryz.func11, Tryz.ntmps11
  go_wp2
  go_loopw [5] (fun r5 wr => ∃ i : Nat, r5 = .int .i64 (i : Int) ∧ i ≤ N ∧ Hid (Only (fun _ => False) w wr)) (fun r5 _ => N - uOf r5)
  case atStart => exact ⟨0, rfl, Nat.zero_le _, Only.refl _ _⟩
  case round =>
    obtain ⟨i, rfl, hi, HI⟩ := hrel
    obtain ⟨w1, rfl⟩ : ∃ w1, w1 = wr := ⟨_, rfl⟩
    have hNl : N = l.length := HNN.out
    have hN4 : l.length ≤ 8192 := HLB.out
    by_cases hiN : i < N
    · obtain ⟨fm, hx⟩ : ∃ x, l[i]? = some x := ⟨l[i]'(by omega), List.getElem?_eq_getElem (by omega)⟩
      obtain ⟨g, k, g', k', a1, c1, a2, c2, b1, e1, b2, e2, rfl, rfl, hA, hB, hD, hI⟩ := HE.out i fm hx
      have HB : Hid (i < N ∧ N ≤ 8192) := ⟨hiN, by omega⟩
      have i1 : (i : Int) < (N : Int) := by omega
      have i0 : (0 : Int) ≤ (i : Int) := by omega
      have hi4 : i ≤ 8192 := by omega
      obtain ⟨fd, hfd⟩ : ∃ fd, fd = fm.d := ⟨_, rfl⟩
      obtain ⟨fn, hfn⟩ : ∃ fn, fn = fm.nm := ⟨_, rfl⟩
      obtain ⟨fi, hfi⟩ : ∃ fi : Int, fi = fm.i := ⟨_, rfl⟩
      obtain ⟨fj, hfj⟩ : ∃ fj : Int, fj = fm.j := ⟨_, rfl⟩
      obtain ⟨x0, hx0⟩ : ∃ x0, x0 = (fm.it.k : Int) := ⟨_, rfl⟩
      obtain ⟨x1, hx1⟩ : ∃ x1, x1 = vn fm.it := ⟨_, rfl⟩
      obtain ⟨x2, hx2⟩ : ∃ x2, x2 = vs fm.it := ⟨_, rfl⟩
      obtain ⟨bL, hbL⟩ : ∃ bL, bL = fm.b.length := ⟨_, rfl⟩
      obtain ⟨xl, hxl⟩ : ∃ xl, xl = fm.it.l.length := ⟨_, rfl⟩
      unfold fC at hA hB
      rw [← hfd, ← hfn, ← hfi, ← hfj, ← hx0, ← hx1, ← hx2, ← hbL, ← hxl] at hA hB
      rw [← hfn, ← hfi, ← hfj, ← hbL] at hD
      rw [← hx0, ← hx1, ← hx2, ← hxl] at hI
      have HS : Hid (∀ w', Only (fun _ => False) w1 w' → w'.cell? ⟨g, k + i * 9, none⟩ = some (.bool fd) ∧ w'.cell? ⟨g, k + i * 9 + 1, none⟩ = some (.string fn) ∧ w'.cell? ⟨g, k + i * 9 + 2, none⟩ = some (.int .i64 fi) ∧ w'.cell? ⟨g, k + i * 9 + 3, none⟩ = some (.int .i64 fj) ∧ w'.cell? ⟨g, k + i * 9 + 4, none⟩ = some (.slice a1 bL c1) ∧ w'.cell? ⟨g, k + i * 9 + 5, none⟩ = some (.int .i64 x0) ∧ w'.cell? ⟨g, k + i * 9 + 6, none⟩ = some (.int .i64 x1) ∧ w'.cell? ⟨g, k + i * 9 + 7, none⟩ = some (.string x2) ∧ w'.cell? ⟨g, k + i * 9 + 8, none⟩ = some (.slice a2 xl c2) ∧ w'.cell? ⟨g', k' + i * 9, none⟩ = some (.bool fd) ∧ w'.cell? ⟨g', k' + i * 9 + 1, none⟩ = some (.string fn) ∧ w'.cell? ⟨g', k' + i * 9 + 2, none⟩ = some (.int .i64 fi) ∧ w'.cell? ⟨g', k' + i * 9 + 3, none⟩ = some (.int .i64 fj) ∧ w'.cell? ⟨g', k' + i * 9 + 4, none⟩ = some (.slice b1 bL e1) ∧ w'.cell? ⟨g', k' + i * 9 + 5, none⟩ = some (.int .i64 x0) ∧ w'.cell? ⟨g', k' + i * 9 + 6, none⟩ = some (.int .i64 x1) ∧ w'.cell? ⟨g', k' + i * 9 + 7, none⟩ = some (.string x2) ∧ w'.cell? ⟨g', k' + i * 9 + 8, none⟩ = some (.slice b2 xl e2)) := fun w' o => by
        have oo := HI.out.trans o (fun _ _ g => g)
        have ca := fun i u hu => oo.cell (hA i u hu) (fun g => g)
        have cb := fun i u hu => oo.cell (hB i u hu) (fun g => g)
        exact ⟨ca 0 _ rfl, ca 1 _ rfl, ca 2 _ rfl, ca 3 _ rfl, ca 4 _ rfl, ca 5 _ rfl, ca 6 _ rfl, ca 7 _ rfl, ca 8 _ rfl, cb 0 _ rfl, cb 1 _ rfl, cb 2 _ rfl, cb 3 _ rfl, cb 4 _ rfl, cb 5 _ rfl, cb 6 _ rfl, cb 7 _ rfl, cb 8 _ rfl⟩
      have HD : Hid (∀ w1, Only (fun _ => False) w w1 → Calls Tryz.prog 26 #[.agg #[.string fn, .int .i64 fi, .int .i64 fj, .slice a1 bL c1], .agg #[.string fn, .int .i64 fi, .int .i64 fj, .slice b1 bL e1]] w1 fun e w' => e = .returned (.bool true) ∧ Only (fun _ => False) w1 w') := hD
      have HIt : Hid (∀ w1, Only (fun _ => False) w w1 → Calls Tryz.prog 23 #[.agg #[.int .i64 x0, .int .i64 x1, .string x2, .slice a2 xl c2], .agg #[.int .i64 x0, .int .i64 x1, .string x2, .slice b2 xl e2]] w1 fun e w' => e = .returned (.bool true) ∧ Only (fun _ => False) w1 w') := hI
      have OR : Hid (Only (fun _ => False) w1 w1) := Only.refl _ _
      clear hfd hfn hfi hfj hx0 hx1 hx2 hbL hxl hA hB hD hI HE hx hNl hN4 hi hiN
      go_wp2_with fail
      go_region_held3 (fun w' => w'.cell? ⟨g, k + i * 9, none⟩ = some (.bool fd) ∧ w'.cell? ⟨g, k + i * 9 + 1, none⟩ = some (.string fn) ∧ w'.cell? ⟨g, k + i * 9 + 2, none⟩ = some (.int .i64 fi) ∧ w'.cell? ⟨g, k + i * 9 + 3, none⟩ = some (.int .i64 fj) ∧ w'.cell? ⟨g, k + i * 9 + 4, none⟩ = some (.slice a1 bL c1) ∧ w'.cell? ⟨g, k + i * 9 + 5, none⟩ = some (.int .i64 x0) ∧ w'.cell? ⟨g, k + i * 9 + 6, none⟩ = some (.int .i64 x1) ∧ w'.cell? ⟨g, k + i * 9 + 7, none⟩ = some (.string x2) ∧ w'.cell? ⟨g, k + i * 9 + 8, none⟩ = some (.slice a2 xl c2) ∧ w'.cell? ⟨g', k' + i * 9, none⟩ = some (.bool fd) ∧ w'.cell? ⟨g', k' + i * 9 + 1, none⟩ = some (.string fn) ∧ w'.cell? ⟨g', k' + i * 9 + 2, none⟩ = some (.int .i64 fi) ∧ w'.cell? ⟨g', k' + i * 9 + 3, none⟩ = some (.int .i64 fj) ∧ w'.cell? ⟨g', k' + i * 9 + 4, none⟩ = some (.slice b1 bL e1) ∧ w'.cell? ⟨g', k' + i * 9 + 5, none⟩ = some (.int .i64 x0) ∧ w'.cell? ⟨g', k' + i * 9 + 6, none⟩ = some (.int .i64 x1) ∧ w'.cell? ⟨g', k' + i * 9 + 7, none⟩ = some (.string x2) ∧ w'.cell? ⟨g', k' + i * 9 + 8, none⟩ = some (.slice b2 xl e2))
        (first
          | with_reducible exact HS.out _ OR.out.drew
          | with_reducible exact HS.out _ O2.out
          | with_reducible exact HS.out _ O3.out)
        (first
          | (go_at_call 26; refine (show Calls Tryz.prog 26 _ _ _ from HD.out _ HI.out.drew).mono ?_; rintro ex w2 ⟨rfl, o2⟩; have O2 : Hid (Only (fun _ => False) w1 w2) := OR.out.drew.trans o2 (fun _ _ g => g))
          | (go_at_call 23; refine (show Calls Tryz.prog 23 _ _ _ from HIt.out _ (HI.out.trans O2.out (fun _ _ g => g))).mono ?_; rintro ex w3 ⟨rfl, o3⟩; have O3 : Hid (Only (fun _ => False) w1 w3) := O2.out.trans o3 (fun _ _ g => g)))
      have HK : Hid (Only (fun _ => False) w w3) := HI.out.trans O3.out (fun _ _ g => g)
      clear HI O2 O3 OR HS HD HIt o2 o3
      go_wp2
      go_roundw
      case rel => exact ⟨i + 1, by go_num, by have := HB.out; omega, HK⟩
      case measure => simp only [uOf]; have := HB.out; omega
    · obtain rfl : i = N := by omega
      have i1 : ¬ (i : Int) < (i : Int) := by omega
      clear HE hNl hN4 hi hiN
      go_wp2
      go_ret
      exact ⟨rfl, HI.out⟩
end Go.Proofs.YtmpfbjmaiddigaaGreatDoor
namespace Go.Proofs.YtmpfbjmaiddigaaGreatDoor
open Go.RowKit
set_option linter.unusedSimpArgs false
set_option linter.unusedVariables false
theorem VtAt.one {w : World} {S : Nat → Prop} {d : Nat} {t : Tre} {lv : Value} (h : VtAt w S d t lv) : lv.oneCell' = true := by
  obtain ⟨ao, cap, rfl⟩ := h.form
  rfl
theorem fC_one {fm : Fm} {bl il : Value} (h1 : bl.oneCell' = true) (h2 : il.oneCell' = true) : ∀ u ∈ fC fm bl il, u.oneCell' = true := by
  intro u hu
  simp only [fC, List.mem_cons, List.not_mem_nil, or_false] at hu
  rcases hu with rfl | rfl | rfl | rfl | rfl | rfl | rfl | rfl | rfl
  · rfl
  · rfl
  · rfl
  · rfl
  · exact h1
  · rfl
  · rfl
  · rfl
  · exact h2
theorem VfAt.lower {w : World} {B C d : Nat} {v : Value} {l : List Fm} (h : VfAt w B d v l) (hC : C ≤ B) : VfAt w C d v l := by
  obtain ⟨us, S, ho, ht, hS⟩ := h
  refine ⟨us, S, ⟨ho.1, ?_⟩, ht, fun b hb => ⟨Nat.le_trans hC (hS b hb).1, (hS b hb).2⟩⟩
  rcases ho.2 with g | ⟨g, cap, cur, h1, h2, h3⟩
  · exact .inl g
  · exact .inr ⟨g, cap, cur, h1, by omega, h3⟩
set_option maxRecDepth 100000 in
theorem app_rows {w : World} {B C d : Nat} {v v2 : Value} {l l2 : List Fm} (hf : VfAt w B d v l) (hf2 : VfAt w C d v2 l2) (hC : B ≤ C) (hv : ∀ k, v.ownBlock = some k → k < C) (hB : B ≤ w.heap.size) (hl : l.length + l2.length ≤ 8192) :
    ∃ v' w', (∀ ty, (Builtin.append_ #[44, 44] ty #[v, v2]).run Tryz.prog w = .ok v' w') ∧ VfAt w' B d v' (l ++ l2) ∧ Only (fun k => B ≤ k) w w' := by
  obtain ⟨i0, z0, hi, hz0, hz1, hz2, hz3⟩ := rf_info
  obtain ⟨us, S, ho, ht, hS⟩ := id hf
  obtain ⟨us2, S2, ho2, ht2, hS2⟩ := hf2
  rcases ho2.2 with ⟨rfl, h0⟩ | ⟨g, cap, cur, hv2, hCg, hg, hn, hcm, hcs, htk⟩
  · obtain rfl : l2 = [] := List.eq_nil_of_length_eq_zero h0
    refine ⟨v, w, fun ty => run_append_owned_none _ B 44 ty 75 i0 9 Tryz.underlying44 hi _ l.length us ho, by simpa using hf, Only.refl _ _⟩
  · have hone : ∀ u ∈ us2, u.oneCell' = true := by
      intro u hu
      obtain ⟨p, hp⟩ := List.getElem?_of_mem hu
      have hpl : p < us2.length := (List.getElem?_eq_some_iff.1 hp).1
      have hl2 := ho2.1
      have hj : p / 9 < l2.length := by omega
      obtain ⟨fm, hfm⟩ : ∃ fm, l2[p / 9]? = some fm := ⟨l2[p / 9]'hj, List.getElem?_eq_getElem hj⟩
      obtain ⟨bl, il, c0, c1, c2⟩ := ht2 _ fm hfm
      have hi9 : p % 9 < (fC fm bl il).length := by show p % 9 < 9; omega
      have hc := c0 (p % 9) _ (List.getElem?_eq_getElem hi9)
      rw [show p / 9 * 9 + p % 9 = p by omega, hp] at hc
      injection hc with hc
      rw [hc]
      exact fC_one c1.one c2.one _ (List.getElem_mem hi9)
    have key := fun ty => run_append_own_at (P := Tryz.prog) w B 44 ty 75 i0 z0 9 120 Tryz.underlying44 hi hz0 hz1 hz2 hz3 (by omega) v l.length us ho ⟨g, 0, none⟩ l2.length cap us2 ho2.1 (by
      intro j u hj
      exact ho2.cells (g := g) (by rw [hv2]; rfl) j u hj) hone (by unfold maxLen; omega) (by omega) hB
    obtain ⟨v', w', hr, own', hgr, _, hat⟩ := key 0
    have oo : Only (fun k => v.ownBlock = some k) w w' := (Only.refl _ w).grown hgr (fun k e _ => e)
    have a1 : ∀ b, S b → ¬ v.ownBlock = some b := fun b h => (hS b h).2.2
    have a2 : ∀ b, S2 b → ¬ v.ownBlock = some b := fun b h e => by have := hv b e; have := (hS2 b h).1; omega
    have hl1 : us.length = l.length * 9 := ho.1
    refine ⟨v', w', fun ty => ?_, ⟨us ++ us2, fun b => S b ∨ S2 b, by simpa using own', fun j x hx => ?_, fun b hb => ?_⟩, oo.mono (fun k hk e => (ho.lt k e).1)⟩
    · rw [hv2, ← hr]
      rfl
    · by_cases hj : j < l.length
      · rw [List.getElem?_append_left hj] at hx
        obtain ⟨bl', il', h0, h1, h2⟩ := ht j x hx
        refine ⟨bl', il', fun i u hu => ?_, h1.step (fun _ g => .inl g) (fun a y hs hc => oo.cell hc (a1 _ hs)) (Nat.le_refl _), h2.step (fun _ g => .inl g) (fun a y hs hc => oo.cell hc (a1 _ hs)) (Nat.le_refl _)⟩
        have := h0 i u hu
        rw [List.getElem?_append_left (List.getElem?_eq_some_iff.1 this).1]
        exact this
      · rw [List.getElem?_append_right (by omega)] at hx
        obtain ⟨bl', il', h0, h1, h2⟩ := ht2 _ x hx
        refine ⟨bl', il', fun i u hu => ?_, h1.step (fun _ g => .inr g) (fun a y hs hc => oo.cell hc (a2 _ hs)) (Nat.le_refl _), h2.step (fun _ g => .inr g) (fun a y hs hc => oo.cell hc (a2 _ hs)) (Nat.le_refl _)⟩
        have := h0 i u hu
        rw [List.getElem?_append_right (by omega), show j * 9 + i - us.length = (j - l.length) * 9 + i by omega]
        exact this
    · have h1 : B ≤ b ∧ b < w.heap.size ∧ v.ownBlock ≠ some b := by
        rcases hb with h | h
        · exact hS b h
        · exact ⟨Nat.le_trans hC (hS2 b h).1, (hS2 b h).2.1, a2 b h⟩
      refine ⟨h1.1, Nat.lt_of_lt_of_le h1.2.1 oo.size, ?_⟩
      rcases hat with e | e <;> rw [e]
      · exact h1.2.2
      · intro e2
        injection e2 with e2
        have := h1.2.1
        omega
/-- FormTrees of what Parse answered -/
theorem ft_any (s : ByteArray) (v : Value) (B : Nat) (w : World) (h : FsAt w B 12400 v (parR s).1) : Calls Tryz.prog 12 #[v] w fun e w' => ∃ ao cap, e = .returned (.slice ao (parR s).1.length cap) ∧ Hid (VfAt w' w.heap.size 12401 (.slice ao (parR s).1.length cap) (parR s).1 ∧ Only (fun _ => False) w w') := by
  obtain ⟨S, hr⟩ := h.read
  have hw := @parR_wf s
  exact formtrees_any 12400 v _ w S hr hw.1 (fun fm hf => (hw.2 fm hf).wfm)
end Go.Proofs.YtmpfbjmaiddigaaGreatDoor
namespace Go.Proofs.YtmpfbjmaiddigaaGreatDoor
open Go.RowKit Go.Lib
set_option linter.unusedSimpArgs false
set_option linter.unusedVariables false
/-- what holds no others is no list and no quotation -/
def LqM (v : Value) : Prop := (∀ W : World, (Instr.typeAssert v 79 85 true).run Tryz.prog W = .ok (.tuple #[.agg #[.slice none 0 0], .bool false]) W) ∧ (∀ W : World, (Instr.typeAssert v 79 90 true).run Tryz.prog W = .ok (.tuple #[.agg #[.slice none 0 0], .bool false]) W)
theorem leaf_lq {S : Nat → Prop} {d : Nat} {t : Vt} {v : Value} {w : World} (h : TiAt w S (d + 1) false t v) (hk : ¬ (t.k = 4 ∨ t.k = 5)) : LqM v ∧ t.l = [] := by
  have m1 : ∀ T x, T ≠ 85 → T ≠ 90 → LqM (.iface T x) := fun T x h1 h2 => ⟨va_miss T 85 79 _ Tryz.underlying85 (by intro m h; cases h) h1 _ zL x, va_miss T 90 79 _ Tryz.underlying90 (by intro m h; cases h) h2 _ zQ x⟩
  rcases h with ⟨_, e, rfl⟩ | ⟨_, e, rfl⟩ | ⟨_, e, rfl⟩ | ⟨_, e, rfl⟩ | ⟨_, e, rfl⟩ | ⟨e, _⟩
  · exact ⟨m1 _ _ (by decide) (by decide), e⟩
  · exact ⟨m1 _ _ (by decide) (by decide), e⟩
  · exact ⟨m1 _ _ (by decide) (by decide), e⟩
  · exact ⟨m1 _ _ (by decide) (by decide), e⟩
  · exact ⟨⟨bad_nil.l, bad_nil.q⟩, e⟩
  · exact absurd e hk
theorem SmT.str {e : Nat} {t : Vt} (h : SmT e t) : t.s.size ≤ 140737488355328 := by
  cases e with
  | zero => exact h.elim
  | succ e => exact h.1
theorem SmT.len {e : Nat} {t : Vt} (h : SmT e t) : t.l.length ≤ 2513169434900 := by
  cases e with
  | zero => exact h.elim
  | succ e => exact h.2.1
theorem SmT.parts {e : Nat} {t : Vt} (h : SmT e t) : ∀ x ∈ t.l, ∃ e, SmT e x := by
  cases e with
  | zero => exact h.elim
  | succ e => exact fun x hx => ⟨e, h.2.2.2.2 x hx⟩
end Go.Proofs.YtmpfbjmaiddigaaGreatDoor
namespace Go.Proofs.YtmpfbjmaiddigaaGreatDoor
open Go.RowKit Go.Lib
set_option linter.unusedSimpArgs false
set_option linter.unusedVariables false
theorem ms_list (d : Nat) (t : Vt) (k o : Nat) (hk : t.k = 4 ∨ t.k = 5) : msB (d + 1) false t k o = (decide (k + 1 ≤ 1024) && decide (o + 1 ≤ 32) && evB d (decide (t.k = 5)) t.l (k + 1) (o + 1)) := by
  have h1 : okV (d + 1) false t = t.l.all (okV d (decide (t.k = 5))) := by unfold okV; rw [if_pos hk]
  have h2 : sz (d + 1) false t = 1 + (t.l.map (sz d (decide (t.k = 5)))).sum := by unfold sz; rfl
  have h3 : dp (d + 1) false t = 1 + ((t.l.map (dp d (decide (t.k = 5)))).foldl max 0) := by unfold dp; rw [if_pos hk]
  unfold msB
  rw [h1, h2, h3]
  by_cases a1 : k + 1 ≤ 1024
  · by_cases a2 : o + 1 ≤ 32
    · rw [evB_eq _ _ _ _ _ a1 a2, decide_eq_true a1, decide_eq_true a2]
      rw [show k + (1 + (t.l.map (sz d (decide (t.k = 5)))).sum) = k + 1 + (t.l.map (sz d (decide (t.k = 5)))).sum by omega, show o + (1 + (t.l.map (dp d (decide (t.k = 5)))).foldl max 0) = o + 1 + (t.l.map (dp d (decide (t.k = 5)))).foldl max 0 by omega]
      simp
    · rw [decide_eq_false a2, decide_eq_false (show ¬ o + (1 + (t.l.map (dp d (decide (t.k = 5)))).foldl max 0) ≤ 32 by omega)]
      simp
  · rw [decide_eq_false a1, decide_eq_false (show ¬ k + (1 + (t.l.map (sz d (decide (t.k = 5)))).sum) ≤ 1024 by omega)]
    simp
end Go.Proofs.YtmpfbjmaiddigaaGreatDoor
namespace Go.Proofs.YtmpfbjmaiddigaaGreatDoor
open Go.RowKit Go.Lib
set_option linter.unusedSimpArgs false
set_option linter.unusedVariables false
abbrev i1v : Value := .iface 88 (.agg #[.int .i64 1])
end Go.Proofs.YtmpfbjmaiddigaaGreatDoor
namespace Go.Proofs.YtmpfbjmaiddigaaGreatDoor
open Go.RowKit Go.Lib
set_option linter.unusedSimpArgs false
set_option linter.unusedVariables false
/-- an item that is not sound: Push of what is no value, or neither Push nor Call -/
def BadI (v : Value) : Prop :=
  (∃ u, v = .iface 81 (.agg #[u]) ∧ BadV u) ∨ ((∀ W : World, (Instr.typeAssert v 36 81 true).run Tryz.prog W = .ok (.tuple #[.agg #[.nilIface], .bool false]) W) ∧ (∀ W : World, (Instr.typeAssert v 36 48 true).run Tryz.prog W = .ok (.tuple #[.agg #[.string ByteArray.empty], .bool false]) W))
/-- a value that is not sound: no value; a list of 1 and of no value; a quotation of one bad item -/
def BadW (w : World) (x : Value) : Prop :=
  BadV x ∨ (∃ g v, x = .iface 85 (.agg #[.slice (some ⟨g, 0, none⟩) 2 2]) ∧ BadV v ∧ w.cell? ⟨g, 0, none⟩ = some i1v ∧ w.cell? ⟨g, 1, none⟩ = some v) ∨ (∃ g v, x = .iface 90 (.agg #[.slice (some ⟨g, 0, none⟩) 1 1]) ∧ BadI v ∧ w.cell? ⟨g, 0, none⟩ = some v)
theorem BadW.one {w : World} (v : Value) (h : BadV v) : BadW w v := .inl h
theorem BadW.list {w : World} (g : Nat) (v : Value) (h : BadV v) (hg0 : w.cell? ⟨g, 0, none⟩ = some i1v) (hg1 : w.cell? ⟨g, 1, none⟩ = some v) : BadW w (.iface 85 (.agg #[.slice (some ⟨g, 0, none⟩) 2 2])) := .inr (.inl ⟨g, v, rfl, h, hg0, hg1⟩)
theorem BadW.quot {w : World} (g : Nat) (v : Value) (h : BadI v) (hg0 : w.cell? ⟨g, 0, none⟩ = some v) : BadW w (.iface 90 (.agg #[.slice (some ⟨g, 0, none⟩) 1 1])) := .inr (.inr ⟨g, v, rfl, h, hg0⟩)
theorem BadI.push (v : Value) (h : BadV v) : BadI (.iface 81 (.agg #[v])) := .inl ⟨v, rfl, h⟩
end Go.Proofs.YtmpfbjmaiddigaaGreatDoor
namespace Go.Proofs.YtmpfbjmaiddigaaGreatDoor
open Go.RowKit Go.Lib
set_option linter.unusedSimpArgs false
set_option linter.unusedVariables false
theorem set2 {w : World} {B : Nat} {x0 y0 : Value} (h0 : w.cell? ⟨B, 0, none⟩ = some x0) (h1 : w.cell? ⟨B, 1, none⟩ = some y0) (x y : Value) :
    ((w.setCell ⟨B, 0, none⟩ x).setCell ⟨B, 1, none⟩ y).cell? ⟨B, 0, none⟩ = some x ∧ ((w.setCell ⟨B, 0, none⟩ x).setCell ⟨B, 1, none⟩ y).cell? ⟨B, 1, none⟩ = some y := by
  have ne : ∀ (W : World) (i j : Nat) (v : Value), i ≠ j → (W.setCell ⟨B, i, none⟩ v).cell? ⟨B, j, none⟩ = W.cell? ⟨B, j, none⟩ := fun W i j v g => by apply World.cell?_setCell_other; intro e; exact g (by injection e)
  refine ⟨?_, ?_⟩
  · rw [ne _ 1 0 _ (by omega)]
    exact World.cell?_setCell_same' _ _ _ (by rw [h0]; rfl)
  · exact World.cell?_setCell_same' _ _ _ (by rw [ne _ 0 1 _ (by omega), h1]; rfl)
end Go.Proofs.YtmpfbjmaiddigaaGreatDoor
namespace Go.Proofs.YtmpfbjmaiddigaaGreatDoor
open Go.RowKit Go.Lib
set_option linter.unusedSimpArgs false
set_option linter.unusedVariables false
theorem nilP (W : World) : (Instr.typeAssert .nilIface 36 81 true).run Tryz.prog W = .ok (.tuple #[.agg #[.nilIface], .bool false]) W := by kernel_rfl
theorem nilC (W : World) : (Instr.typeAssert .nilIface 36 48 true).run Tryz.prog W = .ok (.tuple #[.agg #[.string ⟨#[]⟩], .bool false]) W := by kernel_rfl
end Go.Proofs.YtmpfbjmaiddigaaGreatDoor
namespace Go.Proofs.YtmpfbjmaiddigaaGreatDoor
open Go.RowKit Go.Lib
set_option linter.unusedSimpArgs false
set_option linter.unusedVariables false
/-- is a value sound? -/
def sdB (d : Nat) (t : Vt) : Bool := msB d false t 0 0
/-- what measured answers -/
def MeP (Z : Bool) (Y Q : Nat) (w : World) (e : Ending) (w' : World) : Prop := ∃ dd : Int, (Z = true → dd = (Q : Int)) ∧ e = .returned (.tuple #[.agg #[.int .i64 (if Z then (Y : Int) else 0), .int .i64 (if Z then dd else 0)], .int .i64 (if Z then 0 else 1)]) ∧ Only (fun _ => False) w w'
end Go.Proofs.YtmpfbjmaiddigaaGreatDoor
namespace Go.Proofs.YtmpfbjmaiddigaaGreatDoor
open Go.RowKit Go.Lib
set_option linter.unusedSimpArgs false
set_option linter.unusedVariables false
theorem eql_iface (U T1 T2 : TypeId) (x y : Value) (w : World) : (binOp .eql U (.iface T1 x) (.iface T2 y)).run Tryz.prog w = ((Op.equalIn Op.maxDepth U (.iface T1 x) (.iface T2 y)).run Tryz.prog w).andThen fun b w' => .ok (.bool b) w' := by
  simp only [binOp]
  simp [Op.equal]
theorem eq_iface {U T : TypeId} {m} {i : TypeInfo} (d : Nat) (x y : Value) (w : World) (hU : Tryz.prog.underlying U = some (.interface m)) (hi : Tryz.prog.info? T = some i) (hc : i.comparable = true) : (Op.equalIn (d + 1) U (.iface T x) (.iface T y)).run Tryz.prog w = (Op.equalIn d T x y).run Tryz.prog w := by
  simp [Op.equalIn, run_underlying hU, typeInfo, hi, hc]
set_option maxRecDepth 100000 in
theorem eq_int (d : Nat) (n m : Int) (w : World) : (Op.equalIn (d + 2) 88 (.agg #[.int .i64 n]) (.agg #[.int .i64 m])).run Tryz.prog w = .ok (n == m) w := by
  have hS : Tryz.prog.underlying 88 = some (.struct (Tryz.prog.fieldsOf 88)) := by kernel_rfl
  have hp : Tryz.prog.stoodInHeld 88 = false := by kernel_rfl
  have u := Tryz.underlying2
  have a := Tryz.isAgg2
  have z := Tryz.sizeOf2
  rw [run_equalIn_agg w (d + 1) 88 _ _ hS hp]
  simp only [Program.fieldsOf, Tryz.underlying88]
  go_simp
  all_goals (cases h : (n == m) <;> simp_all)
theorem eqv_int (U : TypeId) {q} (hU : Tryz.prog.underlying U = some (.interface q)) (n m : Int) (w : World) : (binOp .eql U (.iface 88 (.agg #[.int .i64 n])) (.iface 88 (.agg #[.int .i64 m]))).run Tryz.prog w = .ok (.bool (n == m)) w := by
  obtain ⟨D, hD⟩ : ∃ D, Op.maxDepth = D + 2 + 1 := ⟨9997, rfl⟩
  have h1 := eq_iface (D + 2) (.agg #[.int .i64 n]) (.agg #[.int .i64 m]) w hU (T := 88) (i := Tryz.t88) (by kernel_rfl) (by kernel_rfl)
  rw [eql_iface, hD, h1, eq_int D n m w]
  rfl
set_option maxRecDepth 100000 in
theorem eq_str (d : Nat) (n m : ByteArray) (w : World) : (Op.equalIn (d + 2) 118 (.agg #[.string n]) (.agg #[.string m])).run Tryz.prog w = .ok (n.toList == m.toList) w := by
  have hS : Tryz.prog.underlying 118 = some (.struct (Tryz.prog.fieldsOf 118)) := by kernel_rfl
  have hp : Tryz.prog.stoodInHeld 118 = false := by kernel_rfl
  have u := Tryz.underlying9
  have a := Tryz.isAgg9
  have z := Tryz.sizeOf9
  rw [run_equalIn_agg w (d + 1) 118 _ _ hS hp]
  simp only [Program.fieldsOf, Tryz.underlying118]
  go_simp
  all_goals (cases h : (n.toList == m.toList) <;> simp_all)
theorem eqv_str (U : TypeId) {q} (hU : Tryz.prog.underlying U = some (.interface q)) (n m : ByteArray) (w : World) : (binOp .eql U (.iface 118 (.agg #[.string n])) (.iface 118 (.agg #[.string m]))).run Tryz.prog w = .ok (.bool (n.toList == m.toList)) w := by
  obtain ⟨D, hD⟩ : ∃ D, Op.maxDepth = D + 2 + 1 := ⟨9997, rfl⟩
  have h1 := eq_iface (D + 2) (.agg #[.string n]) (.agg #[.string m]) w hU (T := 118) (i := Tryz.t118) (by kernel_rfl) (by kernel_rfl)
  rw [eql_iface, hD, h1, eq_str D n m w]
  rfl
set_option maxRecDepth 100000 in
theorem eq_bool (d : Nat) (n m : Bool) (w : World) : (Op.equalIn (d + 2) 120 (.agg #[.bool n]) (.agg #[.bool m])).run Tryz.prog w = .ok (n == m) w := by
  have hS : Tryz.prog.underlying 120 = some (.struct (Tryz.prog.fieldsOf 120)) := by kernel_rfl
  have hp : Tryz.prog.stoodInHeld 120 = false := by kernel_rfl
  have u := Tryz.underlying4
  have a := Tryz.isAgg4
  have z := Tryz.sizeOf4
  rw [run_equalIn_agg w (d + 1) 120 _ _ hS hp]
  simp only [Program.fieldsOf, Tryz.underlying120]
  go_simp
  all_goals (cases h : (n == m) <;> simp_all)
theorem eqv_bool (U : TypeId) {q} (hU : Tryz.prog.underlying U = some (.interface q)) (n m : Bool) (w : World) : (binOp .eql U (.iface 120 (.agg #[.bool n])) (.iface 120 (.agg #[.bool m]))).run Tryz.prog w = .ok (.bool (n == m)) w := by
  obtain ⟨D, hD⟩ : ∃ D, Op.maxDepth = D + 2 + 1 := ⟨9997, rfl⟩
  have h1 := eq_iface (D + 2) (.agg #[.bool n]) (.agg #[.bool m]) w hU (T := 120) (i := Tryz.t120) (by kernel_rfl) (by kernel_rfl)
  rw [eql_iface, hD, h1, eq_bool D n m w]
  rfl
set_option maxRecDepth 100000 in
theorem eq_box (d : Nat) (n m : Int) (w : World) : (Op.equalIn (d + 2) 123 (.agg #[.int .i64 n]) (.agg #[.int .i64 m])).run Tryz.prog w = .ok (n == m) w := by
  have hS : Tryz.prog.underlying 123 = some (.struct (Tryz.prog.fieldsOf 123)) := by kernel_rfl
  have hp : Tryz.prog.stoodInHeld 123 = false := by kernel_rfl
  have u := Tryz.underlying3
  have a := Tryz.isAgg3
  have z := Tryz.sizeOf3
  rw [run_equalIn_agg w (d + 1) 123 _ _ hS hp]
  simp only [Program.fieldsOf, Tryz.underlying123]
  go_simp
  all_goals (cases h : (n == m) <;> simp_all)
theorem eqv_box (U : TypeId) {q} (hU : Tryz.prog.underlying U = some (.interface q)) (n m : Int) (w : World) : (binOp .eql U (.iface 123 (.agg #[.int .i64 n])) (.iface 123 (.agg #[.int .i64 m]))).run Tryz.prog w = .ok (.bool (n == m)) w := by
  obtain ⟨D, hD⟩ : ∃ D, Op.maxDepth = D + 2 + 1 := ⟨9997, rfl⟩
  have h1 := eq_iface (D + 2) (.agg #[.int .i64 n]) (.agg #[.int .i64 m]) w hU (T := 123) (i := Tryz.t123) (by kernel_rfl) (by kernel_rfl)
  rw [eql_iface, hD, h1, eq_box D n m w]
  rfl
set_option maxRecDepth 100000 in
theorem eq_call (d : Nat) (n m : ByteArray) (w : World) : (Op.equalIn (d + 2) 48 (.agg #[.string n]) (.agg #[.string m])).run Tryz.prog w = .ok (n.toList == m.toList) w := by
  have hS : Tryz.prog.underlying 48 = some (.struct (Tryz.prog.fieldsOf 48)) := by kernel_rfl
  have hp : Tryz.prog.stoodInHeld 48 = false := by kernel_rfl
  have u := Tryz.underlying9
  have a := Tryz.isAgg9
  have z := Tryz.sizeOf9
  rw [run_equalIn_agg w (d + 1) 48 _ _ hS hp]
  simp only [Program.fieldsOf, Tryz.underlying48]
  go_simp
  all_goals (cases h : (n.toList == m.toList) <;> simp_all)
theorem eqv_call (U : TypeId) {q} (hU : Tryz.prog.underlying U = some (.interface q)) (n m : ByteArray) (w : World) : (binOp .eql U (.iface 48 (.agg #[.string n])) (.iface 48 (.agg #[.string m]))).run Tryz.prog w = .ok (.bool (n.toList == m.toList)) w := by
  obtain ⟨D, hD⟩ : ∃ D, Op.maxDepth = D + 2 + 1 := ⟨9997, rfl⟩
  have h1 := eq_iface (D + 2) (.agg #[.string n]) (.agg #[.string m]) w hU (T := 48) (i := Tryz.t48) (by kernel_rfl) (by kernel_rfl)
  rw [eql_iface, hD, h1, eq_call D n m w]
  rfl
theorem eqv_ne (U T1 T2 : TypeId) {q} (hU : Tryz.prog.underlying U = some (.interface q)) (x y : Value) (h : T1 ≠ T2) (w : World) : (binOp .eql U (.iface T1 x) (.iface T2 y)).run Tryz.prog w = .ok (.bool false) w := by
  obtain ⟨D, hD⟩ : ∃ D, Op.maxDepth = D + 1 := ⟨9999, rfl⟩
  have h1 : (Op.equalIn (D + 1) U (.iface T1 x) (.iface T2 y)).run Tryz.prog w = .ok false w := by
    simp only [Op.equalIn, Sem.run_bind, run_underlying hU, Result.andThen_ok]
    simp [h]
  rw [eql_iface, hD, h1]
  rfl
end Go.Proofs.YtmpfbjmaiddigaaGreatDoor
namespace Go.Proofs.YtmpfbjmaiddigaaGreatDoor
open Go.RowKit Go.Lib
set_option linter.unusedSimpArgs false
set_option linter.unusedVariables false
def smL (f : Vt → Vt → Bool) : List Vt → List Vt → Bool
  | [], [] => true
  | x :: a, y :: b => f x y && smL f a b
  | _, _ => false
/-- are two values (items) the same? -/
def smV : Nat → Bool → Vt → Vt → Bool
  | 0, _, _, _ => false
  | d + 1, true, a, b => if a.k = 7 ∨ b.k = 7 then decide (a.k = 7) && decide (b.k = 7) && (a.s.toList == b.s.toList) else smV d false a b
  | d + 1, false, a, b => decide (a.k = b.k) && (if a.k = 1 ∨ a.k = 6 then a.n == b.n else if a.k = 2 then a.s.toList == b.s.toList else if a.k = 3 then (a.n != 0) == (b.n != 0) else smL (smV d (decide (a.k = 5))) a.l b.l)
theorem smL_len (f : Vt → Vt → Bool) : ∀ a b : List Vt, a.length ≠ b.length → smL f a b = false
  | [], [], h => absurd rfl h
  | [], y :: b, _ => rfl
  | x :: a, [], _ => rfl
  | x :: a, y :: b, h => by
    unfold smL
    rw [smL_len f a b (by simpa using h), Bool.and_false]
theorem drop_at {l : List Vt} {j : Nat} {x : Vt} (hx : l[j]? = some x) : l.drop j = x :: l.drop (j + 1) := by
  obtain ⟨hlt, he⟩ := List.getElem?_eq_some_iff.1 hx
  rw [List.drop_eq_getElem_cons hlt, he]
/-- what same, sameItem answer of what is what it may be -/
def SaV (d : Nat) (i : Bool) (F : Nat) : Prop := ∀ (a b : Vt) (va vb : Value) (w : World) (S : Nat → Prop), TiAt w S d i a va → TiAt w S d i b vb → (okV d i a = true ∧ ∃ e, SmT e a) → (okV d i b = true ∧ ∃ e, SmT e b) → Calls Tryz.prog F #[va, vb] w fun e w' => e = .returned (.bool (smV d i a b)) ∧ Only (fun _ => False) w w'
def EfV (d : Nat) (i : Bool) (F Fm : Nat) : Prop := ∀ (la lb : List Vt) (ao bo : Option Addr) (ca cb : Nat) (w : World) (S : Nat → Prop), (∀ (j : Nat) (x : Vt), la[j]? = some x → ∃ g q u, ao = some ⟨g, q, none⟩ ∧ S g ∧ w.cell? ⟨g, q + j, none⟩ = some u ∧ TiAt w S d i x u) → (∀ (j : Nat) (x : Vt), lb[j]? = some x → ∃ g q u, bo = some ⟨g, q, none⟩ ∧ S g ∧ w.cell? ⟨g, q + j, none⟩ = some u ∧ TiAt w S d i x u) → (∀ x ∈ la, okV d i x = true ∧ ∃ e, SmT e x) → (∀ x ∈ lb, okV d i x = true ∧ ∃ e, SmT e x) → la.length ≤ 2513169434900 → lb.length ≤ 2513169434900 → Calls Tryz.prog F #[.slice ao la.length ca, .slice bo lb.length cb, .func (.func Fm) #[] #[]] w fun e w' => e = .returned (.bool (smL (smV d i) la lb)) ∧ Only (fun _ => False) w w'
end Go.Proofs.YtmpfbjmaiddigaaGreatDoor
