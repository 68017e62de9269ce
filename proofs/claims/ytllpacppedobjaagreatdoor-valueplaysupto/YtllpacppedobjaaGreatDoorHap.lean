/- The document's Boxes of any tree; SameInts of the same numbers. Measure and Sound of the document, of any tree, in both verdicts. -/
import Derived.Test.YtllpacppedobjaaGreatDoorHao
import Derived.Test.YtllpacppedobjaaGreatDoorHag
import Derived.Test.YtllpacppedobjaaGreatDoorHak
import Derived.Deep.AppendSrc
import Derived.Lib.SliceRun
import Derived.Deep.RegionHeld3
import Derived.BigQuiet
import Derived.Deep.QuietTactic
namespace Go.Proofs.YtllpacppedobjaaGreatDoor
open Go.RowKit Go.Lib
set_option linter.unusedSimpArgs false
set_option linter.unusedVariables false
/-- the numbers of the boxes in a tree -/
def rbL : Nat → Vt → List Int
  | 0, _ => []
  | d + 1, t => if t.k = 6 then [t.n] else t.l.flatMap (rbL d)
theorem rb_eq : ∀ (d : Nat) (t : Vt), LfT d t → ∀ (i : Bool) (F : Nat), 2 * d + 1 + (if i = true then 1 else 0) ≤ F → bxL F i t = rbL d t
  | 0, _, h, _, _, _ => h.elim
  | d + 1, t, h, i, F, hF => by
    have val : ∀ F', 2 * (d + 1) + 1 ≤ F' → bxL F' false t = rbL (d + 1) t := by
      intro F' hF'
      obtain ⟨G, rfl⟩ : ∃ G, F' = G + 1 := ⟨F' - 1, by omega⟩
      have key : ∀ j : Bool, t.l.flatMap (bxL G j) = t.l.flatMap (rbL d) := fun j => by
        rw [List.flatMap_def, List.flatMap_def, List.map_congr_left (fun x hx => rb_eq d x (h.2 x hx) j G (by split <;> omega))]
      unfold bxL rbL
      split
      · rfl
      split
      · exact key false
      split
      · exact key true
      · rename_i h6 h4 h5
        rw [h.1 (by omega)]
        rfl
    cases i with
    | false => exact val F (by simpa using hF)
    | true =>
      obtain ⟨G, rfl⟩ : ∃ G, F = G + 1 := ⟨F - 1, by omega⟩
      by_cases h7 : t.k = 7
      · rw [show bxL (G + 1) true t = [] from if_pos h7]
        unfold rbL
        rw [if_neg (by omega), h.1 (by omega)]
        rfl
      · rw [show bxL (G + 1) true t = bxL G false t from if_neg h7]
        exact val G (by simp at hF; omega)
theorem app_zero {W : World} {ao : Option Addr} {n cap : Nat} (hc : n ≤ cap) (hn : ao = none → n = 0 ∧ cap = 0) (h0 : ∀ a, ao = some a → ∃ g, a = ⟨g, 0, none⟩) (ty : TypeId) : (Builtin.append_ #[37, 37] ty #[.slice ao n cap, .slice none 0 0]).run Tryz.prog W = .ok (.slice ao n cap) W := by
  obtain ⟨i0, hi, hz0, hz1, hz2⟩ := vinfo_parts bninfo
  cases ao with
  | none =>
    obtain ⟨rfl, rfl⟩ := hn rfl
    have hs : Src Tryz.prog 1 37 (.slice none 0 0) 0 [] W := Src.ofNil W Tryz.underlying37 0
    rcases hs.kind with ⟨e', hk⟩ | hk <;> simp [Builtin.append_, run_underlying Tryz.underlying37, run_underlying hk, sizeOf, typeInfo, hi, hs.len, hs.cells, hz1]
  | some a =>
    obtain ⟨g, rfl⟩ := h0 a rfl
    have := run_append_room_src (P := Tryz.prog) W 37 37 ty 3 i0 Tryz.underlying37 hi g 0 n cap (.slice none 0 0) 0 [] (Src.ofNil W Tryz.underlying37 0) (by omega) (by simp) (by simp)
    simpa [World.setCells] using this
theorem BnAt.lower {w : World} {B C : Nat} {v : Value} {ns : List Int} (h : BnAt w B v ns) (hC : C ≤ B) : BnAt w C v ns := World.ownsRow.mono (show w.ownsRow B 3 1 v ns.length (ns.map (Value.int .i64)) from h) hC
set_option maxRecDepth 100000 in
/-- a row of numbers behind another -/
theorem bn_cat {w : World} {B C : Nat} {ao a2 : Option Addr} {n cap m c2 : Nat} {ns ms : List Int} (h : BnAt w B (.slice ao n cap) ns) (h2 : BnAt w C (.slice a2 m c2) ms) (hB : B ≤ w.heap.size) (hl : ns.length + ms.length ≤ 1048576) :
    ∃ a3 n3 c3 w', (∀ ty, (Builtin.append_ #[37, 37] ty #[.slice ao n cap, .slice a2 m c2]).run Tryz.prog w = .ok (.slice a3 n3 c3) w') ∧ BnAt w' B (.slice a3 n3 c3) (ns ++ ms) ∧ Only (fun k => (Value.slice ao n cap).ownBlock = some k) w w' := by
  obtain ⟨i0, hi, hz0, hz1, hz2⟩ := vinfo_parts bninfo
  have hr : w.ownsRow C 3 1 (.slice a2 m c2) ms.length (ms.map (Value.int .i64)) := h2
  rcases hr.2 with ⟨e1, e2⟩ | ⟨g, cp, cur, e1, hC, hg, hn, hcm, hcs, htk⟩
  · injection e1 with e1 e3 e4
    subst e1 e3 e4
    have hms : ms = [] := List.eq_nil_of_length_eq_zero e2
    subst hms
    have hr1 : w.ownsRow B 3 1 (.slice ao n cap) ns.length (ns.map (Value.int .i64)) := h
    refine ⟨ao, n, cap, w, fun ty => ?_, by rw [List.append_nil]; exact h, Only.refl _ _⟩
    rcases hr1.2 with ⟨f1, f2⟩ | ⟨g, cp, cur, f1, fC, fg, fn, _⟩
    · injection f1 with f1 f3 f4
      subst f1 f3 f4
      exact app_zero (Nat.le_refl _) (fun _ => ⟨rfl, rfl⟩) (fun a e => by cases e) ty
    · injection f1 with f1 f3 f4
      subst f1 f3 f4
      exact app_zero (by omega) (fun e => by cases e) (fun a e => by injection e with e; exact ⟨g, e.symm⟩) ty
  · injection e1 with e1 e3 e4
    subst e1 e3 e4
    have key := fun ty => run_append_own_at (P := Tryz.prog) w B 37 ty 3 i0 (.int .i64 0) 1 8 Tryz.underlying37 hi hz0 hz1 hz2 rfl (by omega) (.slice ao n cap) ns.length (ns.map (Value.int .i64)) h ⟨g, 0, none⟩ ms.length c2 (ms.map (Value.int .i64)) (by simp) (fun j u hu => hr.cells (g := g) rfl j u hu) (by
      intro u hu
      obtain ⟨z, _, rfl⟩ := List.mem_map.1 hu
      rfl) (by unfold maxLen; omega) (by omega) hB
    obtain ⟨v', w', hrun, own', hgr, _, hat⟩ := key 0
    obtain ⟨a3, c3, hv3⟩ := ownsRow_slice own'
    subst hv3
    refine ⟨a3, ns.length + ms.length, c3, w', fun ty => ?_, ?_, (Only.refl (fun k => (Value.slice ao n cap).ownBlock = some k) w).grown hgr (fun k e _ => e)⟩
    · rw [← hrun]
      rfl
    · unfold BnAt
      simpa using own'
/-- what the document's Boxes answers -/
def RbC (d : Nat) : Prop := ∀ (t : Vt) (lv : Value) (w : World) (S : Nat → Prop), VsAt w S d t.l lv → (∃ e, SmT e t) → (rbL d t).length ≤ 1000000 →
  Calls Tryz.prog 23 #[vV t.k t.n t.s lv] w fun e w' => ∃ ao n cap, e = .returned (.slice ao n cap) ∧ Hid (BnAt w' w.heap.size (.slice ao n cap) (rbL d t) ∧ Only (fun _ => False) w w')
set_option maxRecDepth 100000 in
set_option maxHeartbeats 4000000 in
theorem rb_box (n : Int) (hn : -9223372036854775808 ≤ n ∧ n ≤ 9223372036854775807) (s : ByteArray) (ao : Option Addr) (N cap : Nat) (w : World) :
    Calls Tryz.prog 23 #[vV 6 n s (.slice ao N cap)] w fun e w' => ∃ ao n' cap, e = .returned (.slice ao n' cap) ∧ Hid (BnAt w' w.heap.size (.slice ao n' cap) [n] ∧ Only (fun _ => False) w w') := by
  have e1 : IntKind.i64.wrap n = n := by rw [IntKind.wrap_i64]; omega
  obtain ⟨W, hW⟩ : ∃ W, W = (w.alloc (.cells #[.int .i64 6, .int .i64 n, .string s, .slice ao N cap] 24)).alloc (.cells #[.int .i64 n] 3) := ⟨_, rfl⟩
  obtain ⟨B, hB⟩ : ∃ B, B = w.heap.size + 1 := ⟨_, rfl⟩
  have HP : Hid (BnAt W w.heap.size (.slice (some ⟨B, 0, none⟩) 1 1) [n] ∧ Only (fun _ => False) w W) := by
    refine ⟨⟨rfl, .inr ⟨B, 1, #[.int .i64 n], rfl, by omega, by rw [hW]; exact valloc_at _ _ _ (by rw [hB]; simp), Nat.le_refl _, by unfold maxLen; omega, rfl, rfl⟩⟩, by rw [hW]; exact ((Only.refl _ w).alloc _).alloc _⟩
  unfold vV
  go_enter Tryz.func23, Tryz.ntmps23
  go_wp2
  go_ret
  rw [← hW, ← hB]
  exact ⟨_, 1, 1, rfl, HP.out⟩
set_option maxRecDepth 100000 in
set_option maxHeartbeats 4000000 in
theorem rb_list (d : Nat) (H : RbC d) (k n : Int) (hk : k ≠ 6) (s : ByteArray) (l : List Vt) (ao : Option Addr) (cap : Nat) (w : World) (S : Nat → Prop) (hv : VsAt w S (d + 1) l (.slice ao l.length cap)) (hsm : ∀ x ∈ l, ∃ e, SmT e x) (hlen : l.length ≤ 1048576) (hb : (l.flatMap (rbL d)).length ≤ 1000000) :
    Calls Tryz.prog 23 #[vV k n s (.slice ao l.length cap)] w fun e w' => ∃ ao n' cap, e = .returned (.slice ao n' cap) ∧ Hid (BnAt w' w.heap.size (.slice ao n' cap) (l.flatMap (rbL d)) ∧ Only (fun _ => False) w w') := by
  obtain ⟨W, hW⟩ : ∃ W, W = w.alloc (.cells #[.int .i64 k, .int .i64 n, .string s, .slice ao l.length cap] 24) := ⟨_, rfl⟩
  obtain ⟨B, hB⟩ : ∃ B, B = w.heap.size := ⟨_, rfl⟩
  have oW : Only (fun _ => False) w W := by rw [hW]; exact (Only.refl _ w).alloc _
  have bW : W.heap[B]? = some (.cells #[.int .i64 k, .int .i64 n, .string s, .slice ao l.length cap] 24) := by rw [hW]; exact valloc_at _ _ _ hB
  obtain ⟨ao', cap', he, hcap, hel⟩ := hv
  obtain ⟨rfl, rfl⟩ : ao = ao' ∧ cap = cap' := by simpa using he
  have HE : Hid (∀ (j : Nat) (x : Vt), l[j]? = some x → ((l.take j).flatMap (rbL d)).length + (rbL d x).length ≤ 1000000 ∧ (l.take (j + 1)).flatMap (rbL d) = (l.take j).flatMap (rbL d) ++ rbL d x ∧ ∃ g q lx, ao = some ⟨g, q, none⟩ ∧ (∀ w1, Only (fun _ => False) w w1 → w1.cell? ⟨g, q + j * 4, none⟩ = some (.int .i64 x.k) ∧ w1.cell? ⟨g, q + j * 4 + 1, none⟩ = some (.int .i64 x.n) ∧ w1.cell? ⟨g, q + j * 4 + 2, none⟩ = some (.string x.s) ∧ w1.cell? ⟨g, q + j * 4 + 3, none⟩ = some lx) ∧ ∀ w1, Only (fun _ => False) w w1 → Calls Tryz.prog 23 #[.agg #[.int .i64 x.k, .int .i64 x.n, .string x.s, lx]] w1 fun e w' => ∃ ao n cap, e = .returned (.slice ao n cap) ∧ Hid (BnAt w' w1.heap.size (.slice ao n cap) (rbL d x) ∧ Only (fun _ => False) w1 w')) := fun j x hx => by
    obtain ⟨g, q, lx, p1, p2, ⟨c0, c1, c2, c3⟩, p4⟩ := hel j x hx
    have e1 : (l.take (j + 1)).flatMap (rbL d) = (l.take j).flatMap (rbL d) ++ rbL d x := by
      rw [List.take_add_one, hx]
      simp
    have e2 : l.flatMap (rbL d) = (l.take (j + 1)).flatMap (rbL d) ++ (l.drop (j + 1)).flatMap (rbL d) := by
      conv => lhs; rw [← List.take_append_drop (j + 1) l]
      rw [List.flatMap_append]
    have e3 : ((l.take j).flatMap (rbL d)).length + (rbL d x).length ≤ 1000000 := by
      rw [e2, e1] at hb
      simp only [List.length_append] at hb
      omega
    refine ⟨e3, e1, g, q, lx, p1, fun w1 o => ⟨o.cell c0 (fun g => g), o.cell c1 (fun g => g), o.cell c2 (fun g => g), o.cell c3 (fun g => g)⟩, fun w1 o => ?_⟩
    exact H x lx w1 S (p4.only o) (hsm x (List.mem_of_getElem? hx)) (by omega)
  obtain ⟨N, hN⟩ : ∃ N, N = l.length := ⟨_, rfl⟩
  have HN : Hid (N = l.length ∧ N ≤ 1048576) := ⟨hN, by omega⟩
  have HW : Hid (W.heap[B]? = some (.cells #[.int .i64 k, .int .i64 n, .string s, .slice ao N cap] 24) ∧ Only (fun _ => False) w W ∧ B = w.heap.size) := by rw [hN]; exact ⟨bW, oW, hB⟩
  have hk6 : (k == 6) = false := by simpa using hk
  rw [← hN] at hW ⊢
  clear hel hsm hlen hb hcap he hN bW oW H hk
  unfold vV
  go_enter Tryz.func23, Tryz.ntmps23
  go_wp2
  rw [← hW, ← hB]
  clear hW hB
  go_loopw [3, 4] (fun r3 r4 wr => ∃ (j : Nat) (a' : Option Addr) (n' c' : Nat), r4 = .int .i64 (j : Int) ∧ r3 = .slice a' n' c' ∧ j ≤ N ∧ Hid (BnAt wr W.heap.size (.slice a' n' c') ((l.take j).flatMap (rbL d)) ∧ Only (fun _ => False) W wr)) (fun _ r4 _ => N - vuOf r4)
  case atStart => exact ⟨0, none, 0, 0, rfl, rfl, Nat.zero_le _, bn_nil _ _, Only.refl _ _⟩
  case round =>
    obtain ⟨j, a', n', c', rfl, rfl, hj, HI⟩ := hrel
    obtain ⟨w1, hw1⟩ : ∃ w1, w1 = wr := ⟨_, rfl⟩
    rw [← hw1] at HI ⊢
    clear hw1
    have hb1 := (HI.out.2.block B (Array.getElem?_eq_some_iff.1 HW.out.1).1 (fun g => g)).trans HW.out.1
    have cB3 := (vblk_cells hb1 3).trans rfl
    have hNl := HN.out.1
    have hN2 := HN.out.2
    by_cases hjN : j < N
    · obtain ⟨x, hx⟩ : ∃ x, l[j]? = some x := ⟨l[j]'(by omega), List.getElem?_eq_getElem (by omega)⟩
      obtain ⟨z1, z2, g, q, lx, rfl, hc, hcall⟩ := HE.out j x hx
      have ow := HW.out.2.1.trans HI.out.2 (fun _ _ g => g)
      obtain ⟨c0, c1, c2, c3⟩ := hc w1 ow
      have HC : Hid _ := hcall w1 ow
      have HZ : Hid (((l.take j).flatMap (rbL d)).length + (rbL d x).length ≤ 1000000 ∧ (l.take (j + 1)).flatMap (rbL d) = (l.take j).flatMap (rbL d) ++ rbL d x ∧ j < N ∧ Only (fun _ => False) w w1) := ⟨z1, z2, hjN, ow⟩
      have i1 : (j : Int) < (N : Int) := by omega
      have i0 : (0 : Int) ≤ (j : Int) := by omega
      have i4 : j ≤ 1048576 := by omega
      obtain ⟨x0, hx0⟩ : ∃ x0, x0 = x.k := ⟨_, rfl⟩
      obtain ⟨x1, hx1⟩ : ∃ x1, x1 = x.n := ⟨_, rfl⟩
      obtain ⟨x2, hx2⟩ : ∃ x2, x2 = x.s := ⟨_, rfl⟩
      rw [← hx0, ← hx1, ← hx2] at HC
      rw [← hx0] at c0
      rw [← hx1] at c1
      rw [← hx2] at c2
      clear hc hcall ow hNl hN2 hjN hj hx z1 z2 hx0 hx1 hx2 hb1 HE
      go_wp2_with fail
      refine (show Calls Tryz.prog 23 _ _ _ from HC.out).mono ?_
      rintro e w2 ⟨b2, m2, d2, rfl, G2⟩
      obtain ⟨a3, n3, c3', w3, hr, hbn, o3⟩ := bn_cat (HI.out.1.only G2.out.2 (fun _ _ _ g => g)) G2.out.1 (Nat.le_trans HI.out.2.size G2.out.2.size) (by have := HZ.out.1; omega)
      have HR : Hid _ := hr
      have HF : Hid (BnAt w3 W.heap.size (.slice a3 n3 c3') ((l.take (j + 1)).flatMap (rbL d)) ∧ Only (fun _ => False) W w3 ∧ j < N) := by
        refine ⟨by rw [HZ.out.2.1]; exact hbn, ?_, HZ.out.2.2.1⟩
        have o13 : Only (fun k => (Value.slice a' n' c').ownBlock = some k) w1 w3 := (G2.out.2.mono (fun _ _ g => g.elim)).trans o3 (fun _ _ g => g)
        refine ⟨o13.os.trans HI.out.2.os, o13.tape.trans HI.out.2.tape, o13.output.trans HI.out.2.output, Nat.le_trans HI.out.2.size o13.size, fun b hb _ => ?_⟩
        by_cases e : (Value.slice a' n' c').ownBlock = some b
        · have hlt := World.ownsRow.lt (show w1.ownsRow _ _ _ _ _ _ from HI.out.1) b e
          omega
        · exact (o13.block b (Nat.lt_of_lt_of_le hb HI.out.2.size) e).trans (HI.out.2.block b hb (fun g => g))
      clear HC G2 hr hbn o3 HI HZ c0 c1 c2 c3 cB3
      go_wp2_with (at_builtin; refine vwpList_append_run rfl _ _ 37 rfl _ _ _ rfl rfl HR.out ?_)
      go_roundw
      case rel => exact ⟨j + 1, a3, n3, c3', by go_num, rfl, by have := HF.out.2.2; omega, HF.out.1, HF.out.2.1⟩
      case measure => simp only [vuOf]; have := HF.out.2.2; omega
    · obtain rfl : j = N := by omega
      have i1 : ¬ (j : Int) < (j : Int) := by omega
      have hI := HI.out
      rw [show l.take j = l from by rw [hNl]; exact List.take_length] at hI
      have HF : Hid (BnAt w1 w.heap.size (.slice a' n' c') (l.flatMap (rbL d)) ∧ Only (fun _ => False) w w1) := ⟨hI.1.lower HW.out.2.1.size, HW.out.2.1.trans hI.2 (fun _ _ g => g)⟩
      clear HI hI hNl hN2 hjN hj HE hb1
      go_wp2
      go_ret
      exact ⟨a', n', c', rfl, HF.out⟩
theorem rb_all : ∀ d : Nat, RbC d
  | 0 => fun t lv w S h => h.elim
  | d + 1 => by
    intro t lv w S hv hsm hb
    obtain ⟨ao, cap, hlv⟩ := hv.form
    obtain ⟨e, he⟩ := hsm
    by_cases h6 : t.k = 6
    · rw [show rbL (d + 1) t = [t.n] from if_pos h6, h6, hlv]
      refine rb_box t.n ?_ t.s ao _ cap w
      cases e with
      | zero => exact he.elim
      | succ e => exact he.2.2.2.1
    · rw [show rbL (d + 1) t = t.l.flatMap (rbL d) from if_neg h6] at hb ⊢
      rw [hlv] at hv ⊢
      exact rb_list d (rb_all d) t.k t.n h6 t.s t.l ao cap w S hv he.parts he.len hb
end Go.Proofs.YtllpacppedobjaaGreatDoor
namespace Go.Proofs.YtllpacppedobjaaGreatDoor
open Go.RowKit Go.Lib
set_option linter.unusedSimpArgs false
set_option linter.unusedVariables false
set_option maxRecDepth 100000 in
set_option maxHeartbeats 4000000 in
theorem drsv_any (s : ByteArray) (w : World) : Calls Tryz.prog 55 #[.string s] w fun x w' => x = .returned (.bool (resB s)) ∧ w' = w := by
  go_enter Tryz.func55, Tryz.ntmps55
  go_wp2
  all_goals
    go_ret
    refine ⟨?_, rfl⟩
    first
      | (exfalso; simp_all; done)
      | (unfold resB; simp only [*, Bool.or_true, Bool.or_false, Bool.true_or, Bool.false_or]; done)
      | (unfold resB; simp_all; done)
      | (simp only [Ending.returned.injEq, Value.bool.injEq]; unfold resB; ac_rfl)
      | (unfold resB; simp [Bool.or_comm, Bool.or_left_comm, Bool.or_assoc]; done)
set_option maxRecDepth 100000 in
theorem din_any (n : Int) (w : World) : Calls Tryz.prog 35 #[.int .i64 n] w fun x w' => x = .returned (.bool (decide (-1152921504606846976 ≤ n) && decide (n ≤ 1152921504606846975))) ∧ w' = w := by
  by_cases h1 : -1152921504606846976 ≤ n
  · by_cases h2 : n ≤ 1152921504606846975
    · rw [decide_eq_true h1, decide_eq_true h2]
      go_enter Tryz.func35, Tryz.ntmps35
      go_wp2
      all_goals
        go_ret
        exact ⟨by simp [*], rfl⟩
    · rw [decide_eq_true h1, decide_eq_false h2]
      go_enter Tryz.func35, Tryz.ntmps35
      go_wp2
      all_goals
        go_ret
        exact ⟨by simp [*], rfl⟩
  · rw [decide_eq_false h1, Bool.false_and]
    go_enter Tryz.func35, Tryz.ntmps35
    go_wp2
    all_goals
      go_ret
      exact ⟨by simp [*], rfl⟩
set_option maxRecDepth 100000 in
theorem dname_any (s : ByteArray) (hs : s.size ≤ 268435456) (w : World) : Calls Tryz.prog 37 #[.string s] w fun x w' => x = .returned (.bool (clB s)) ∧ Only (fun _ => False) w w' := by
  have HC : Hid (Calls Tryz.prog 54 #[.string s] w fun e w' => e = .returned (.bool (nameB s)) ∧ Only (fun _ => False) w w') := rName_any s hs w
  have HR : Hid (∀ w1, Calls Tryz.prog 55 #[.string s] w1 fun e w' => e = .returned (.bool (resB s)) ∧ w' = w1) := fun w1 => drsv_any s w1
  unfold clB
  obtain ⟨b1, hb1⟩ : ∃ b, b = nameB s := ⟨_, rfl⟩
  obtain ⟨b2, hb2⟩ : ∃ b, b = resB s := ⟨_, rfl⟩
  rw [← hb1] at HC ⊢
  rw [← hb2] at HR ⊢
  clear hb1 hb2 hs
  go_enter Tryz.func37, Tryz.ntmps37
  go_wp2_with fail
  refine (show Calls Tryz.prog 54 _ _ _ from HC.out).mono ?_
  rintro e w1 ⟨rfl, o1⟩
  have O1 : Hid (Only (fun _ => False) w w1) := o1
  clear HC o1
  cases b1 with
  | false =>
    go_wp2
    go_ret
    exact ⟨rfl, O1.out⟩
  | true =>
    go_wp2_with fail
    refine (show Calls Tryz.prog 55 _ _ _ from HR.out _).mono ?_
    rintro e w2 ⟨rfl, rfl⟩
    clear HR
    go_wp2
    go_ret
    exact ⟨rfl, O1.out⟩
/-- what Measure answers, as values -/
def mP (r : Int × Int × Bool) (w : World) (e : Ending) (w' : World) : Prop := e = .returned (.tuple #[.int .i64 r.1, .int .i64 r.2.1, .bool r.2.2]) ∧ Only (fun _ => False) w w'
set_option maxRecDepth 100000 in
set_option maxHeartbeats 2000000 in
theorem dz_left (k n : Int) (s : ByteArray) (ao : Option Addr) (L c : Nat) (left nest : Int) (h : left < 1) (w : World) : Calls Tryz.prog 19 #[vV k n s (.slice ao L c), .int .i64 left, .int .i64 nest] w (mP (0, 0, false) w) := by
  unfold vV mP
  have O0 : Hid (Only (fun _ => False) w w) := Only.refl _ _
  go_enter Tryz.func19, Tryz.ntmps19
  go_wp2
  go_ret3
  exact ⟨rfl, O0.out.alloc _⟩
set_option maxRecDepth 100000 in
set_option maxHeartbeats 2000000 in
theorem dz_nest (k n : Int) (s : ByteArray) (ao : Option Addr) (L c : Nat) (left nest : Int) (h1 : 1 ≤ left) (h : 32 < nest) (w : World) : Calls Tryz.prog 19 #[vV k n s (.slice ao L c), .int .i64 left, .int .i64 nest] w (mP (0, 0, false) w) := by
  unfold vV mP
  have O0 : Hid (Only (fun _ => False) w w) := Only.refl _ _
  go_enter Tryz.func19, Tryz.ntmps19
  go_wp2
  go_ret3
  exact ⟨rfl, O0.out.alloc _⟩
set_option maxRecDepth 100000 in
set_option maxHeartbeats 2000000 in
theorem dz_int (n : Int) (s : ByteArray) (ao : Option Addr) (L c : Nat) (left nest : Int) (h1 : 1 ≤ left) (h4 : nest ≤ 32) (w : World) : Calls Tryz.prog 19 #[vV 1 n s (.slice ao L c), .int .i64 left, .int .i64 nest] w (mP (1, 0, decide (-1152921504606846976 ≤ n) && decide (n ≤ 1152921504606846975)) w) := by
  unfold vV mP
  have O0 : Hid (Only (fun _ => False) w w) := Only.refl _ _
  have HI : Hid (∀ w1, Calls Tryz.prog 35 #[.int .i64 n] w1 fun x w' => x = .returned (.bool (decide (-1152921504606846976 ≤ n) && decide (n ≤ 1152921504606846975))) ∧ w' = w1) := din_any n
  obtain ⟨b, hb⟩ : ∃ b, b = (decide (-1152921504606846976 ≤ n) && decide (n ≤ 1152921504606846975)) := ⟨_, rfl⟩
  rw [← hb] at HI ⊢
  clear hb
  go_enter Tryz.func19, Tryz.ntmps19
  go_wp2_with fail
  refine (show Calls Tryz.prog 35 _ _ _ from HI.out _).mono ?_
  rintro e w1 ⟨rfl, rfl⟩
  clear HI
  go_wp2
  go_ret3
  exact ⟨rfl, O0.out.alloc _⟩
set_option maxRecDepth 100000 in
set_option maxHeartbeats 2000000 in
theorem dz_long (n : Int) (s : ByteArray) (ao : Option Addr) (L c : Nat) (left nest : Int) (h1 : 1 ≤ left) (h4 : nest ≤ 32) (g1 : 4096 < s.size) (w : World) : Calls Tryz.prog 19 #[vV 2 n s (.slice ao L c), .int .i64 left, .int .i64 nest] w (mP (1, 0, false) w) := by
  unfold vV mP
  have O0 : Hid (Only (fun _ => False) w w) := Only.refl _ _
  have g3 : ¬ (s.size : Int) ≤ 4096 := by omega
  clear g1
  go_enter Tryz.func19, Tryz.ntmps19
  go_wp2
  go_ret3
  exact ⟨rfl, O0.out.alloc _⟩
set_option maxRecDepth 100000 in
set_option maxHeartbeats 2000000 in
theorem dz_str (n : Int) (s : ByteArray) (ao : Option Addr) (L c : Nat) (left nest : Int) (h1 : 1 ≤ left) (h4 : nest ≤ 32) (g1 : s.size ≤ 4096) (g2 : ¬ stR s < s.size) (w : World) : Calls Tryz.prog 19 #[vV 2 n s (.slice ao L c), .int .i64 left, .int .i64 nest] w (mP (1, 0, true) w) := by
  unfold vV mP
  have O0 : Hid (Only (fun _ => False) w w) := Only.refl _ _
  obtain ⟨z, hz⟩ : ∃ z : Int, z = badR s := ⟨_, rfl⟩
  have HI : Hid (∀ w1, Calls Tryz.prog 36 #[.string s] w1 fun x w' => x = .returned (.int .i64 z) ∧ Only (fun _ => False) w1 w') := fun w1 => by
    have := bad_any s (by omega) w1
    rwa [← hz] at this
  have g3 : (s.size : Int) ≤ 4096 := by omega
  have g4 : z < 0 := by
    rw [hz]
    unfold badR
    rw [if_neg g2]
    omega
  clear g1 g2 hz
  go_enter Tryz.func19, Tryz.ntmps19
  go_wp2_with fail
  refine (show Calls Tryz.prog 36 _ _ _ from HI.out _).mono ?_
  rintro e w1 ⟨rfl, o1⟩
  have O1 : Hid (Only (fun _ => False) w w1) := (O0.out.alloc _).trans o1 (fun _ _ g => g)
  clear HI o1
  go_wp2
  go_ret3
  refine ⟨?_, O1.out⟩
  rfl
set_option maxRecDepth 100000 in
set_option maxHeartbeats 2000000 in
theorem dz_bad (n : Int) (s : ByteArray) (ao : Option Addr) (L c : Nat) (left nest : Int) (h1 : 1 ≤ left) (h4 : nest ≤ 32) (g1 : s.size ≤ 4096) (g2 : stR s < s.size) (w : World) : Calls Tryz.prog 19 #[vV 2 n s (.slice ao L c), .int .i64 left, .int .i64 nest] w (mP (1, 0, false) w) := by
  unfold vV mP
  have O0 : Hid (Only (fun _ => False) w w) := Only.refl _ _
  obtain ⟨z, hz⟩ : ∃ z : Int, z = badR s := ⟨_, rfl⟩
  have HI : Hid (∀ w1, Calls Tryz.prog 36 #[.string s] w1 fun x w' => x = .returned (.int .i64 z) ∧ Only (fun _ => False) w1 w') := fun w1 => by
    have := bad_any s (by omega) w1
    rwa [← hz] at this
  have g3 : (s.size : Int) ≤ 4096 := by omega
  have g4 : ¬ z < 0 := by
    rw [hz]
    unfold badR
    rw [if_pos g2]
    omega
  clear g1 g2 hz
  go_enter Tryz.func19, Tryz.ntmps19
  go_wp2_with fail
  refine (show Calls Tryz.prog 36 _ _ _ from HI.out _).mono ?_
  rintro e w1 ⟨rfl, o1⟩
  have O1 : Hid (Only (fun _ => False) w w1) := (O0.out.alloc _).trans o1 (fun _ _ g => g)
  clear HI o1
  go_wp2
  go_ret3
  refine ⟨?_, O1.out⟩
  show Ending.returned (.tuple #[.int .i64 1, .int .i64 0, .bool (decide (z < 0))]) = _
  rw [decide_eq_false (p := z < 0) (by omega)]
set_option maxRecDepth 100000 in
set_option maxHeartbeats 2000000 in
theorem dz_bool (n : Int) (s : ByteArray) (ao : Option Addr) (L c : Nat) (left nest : Int) (h1 : 1 ≤ left) (h4 : nest ≤ 32) (w : World) : Calls Tryz.prog 19 #[vV 3 n s (.slice ao L c), .int .i64 left, .int .i64 nest] w (mP (1, 0, true) w) := by
  unfold vV mP
  have O0 : Hid (Only (fun _ => False) w w) := Only.refl _ _
  go_enter Tryz.func19, Tryz.ntmps19
  go_wp2
  go_ret3
  exact ⟨rfl, O0.out.alloc _⟩
set_option maxRecDepth 100000 in
set_option maxHeartbeats 2000000 in
theorem dz_box_lo (n : Int) (s : ByteArray) (ao : Option Addr) (L c : Nat) (left nest : Int) (h1 : 1 ≤ left) (h4 : nest ≤ 32) (g1 : decide (1 ≤ n) = false) (w : World) : Calls Tryz.prog 19 #[vV 6 n s (.slice ao L c), .int .i64 left, .int .i64 nest] w (mP (1, 0, false) w) := by
  unfold vV mP
  have O0 : Hid (Only (fun _ => False) w w) := Only.refl _ _
  go_enter Tryz.func19, Tryz.ntmps19
  go_wp2_with fail
  go_quiet (fail)
  go_wp2
  go_ret3
  exact ⟨rfl, (O0.out.alloc _).drewN _⟩
set_option maxRecDepth 100000 in
set_option maxHeartbeats 2000000 in
theorem dz_box_hi (n : Int) (s : ByteArray) (ao : Option Addr) (L c : Nat) (left nest : Int) (h1 : 1 ≤ left) (h4 : nest ≤ 32) (g1 : decide (1 ≤ n) = true) (g2 : decide (n ≤ 1048576) = false) (w : World) : Calls Tryz.prog 19 #[vV 6 n s (.slice ao L c), .int .i64 left, .int .i64 nest] w (mP (1, 0, false) w) := by
  unfold vV mP
  have O0 : Hid (Only (fun _ => False) w w) := Only.refl _ _
  go_enter Tryz.func19, Tryz.ntmps19
  go_wp2_with fail
  go_quiet (fail)
  go_wp2
  go_ret3
  exact ⟨rfl, (O0.out.alloc _).drewN _⟩
set_option maxRecDepth 100000 in
set_option maxHeartbeats 2000000 in
theorem dz_box (n : Int) (s : ByteArray) (ao : Option Addr) (L c : Nat) (left nest : Int) (h1 : 1 ≤ left) (h4 : nest ≤ 32) (g1 : decide (1 ≤ n) = true) (g2 : decide (n ≤ 1048576) = true) (w : World) : Calls Tryz.prog 19 #[vV 6 n s (.slice ao L c), .int .i64 left, .int .i64 nest] w (mP (1, 0, true) w) := by
  unfold vV mP
  have O0 : Hid (Only (fun _ => False) w w) := Only.refl _ _
  go_enter Tryz.func19, Tryz.ntmps19
  go_wp2_with fail
  go_quiet (fail)
  go_wp2
  go_ret3
  exact ⟨rfl, (O0.out.alloc _).drewN _⟩
set_option maxRecDepth 100000 in
set_option maxHeartbeats 2000000 in
theorem dz_call (n : Int) (s : ByteArray) (ao : Option Addr) (L c : Nat) (left nest : Int) (h1 : 1 ≤ left) (h4 : nest ≤ 32) (g1 : s.size ≤ 268435456) (w : World) : Calls Tryz.prog 19 #[vV 7 n s (.slice ao L c), .int .i64 left, .int .i64 nest] w (mP (1, 0, clB s) w) := by
  unfold vV mP
  have O0 : Hid (Only (fun _ => False) w w) := Only.refl _ _
  have HI : Hid (∀ w1, Calls Tryz.prog 37 #[.string s] w1 fun x w' => x = .returned (.bool (clB s)) ∧ Only (fun _ => False) w1 w') := dname_any s g1
  obtain ⟨b, hb⟩ : ∃ b, b = clB s := ⟨_, rfl⟩
  rw [← hb] at HI ⊢
  clear hb g1
  go_enter Tryz.func19, Tryz.ntmps19
  go_wp2_with fail
  refine (show Calls Tryz.prog 37 _ _ _ from HI.out _).mono ?_
  rintro e w1 ⟨rfl, o1⟩
  have O1 : Hid (Only (fun _ => False) w w1) := (O0.out.alloc _).trans o1 (fun _ _ g => g)
  clear HI o1
  go_wp2
  go_ret3
  exact ⟨rfl, O1.out⟩
set_option maxRecDepth 100000 in
set_option maxHeartbeats 2000000 in
theorem dz_none (k n : Int) (s : ByteArray) (ao : Option Addr) (L c : Nat) (left nest : Int) (h1 : 1 ≤ left) (h4 : nest ≤ 32) (e1 : (k == 1) = false) (e2 : (k == 2) = false) (e3 : (k == 3) = false) (e4 : (k == 4) = false) (e5 : (k == 5) = false) (e6 : (k == 6) = false) (e7 : (k == 7) = false) (w : World) : Calls Tryz.prog 19 #[vV k n s (.slice ao L c), .int .i64 left, .int .i64 nest] w (mP (0, 0, false) w) := by
  unfold vV mP
  have O0 : Hid (Only (fun _ => False) w w) := Only.refl _ _
  go_enter Tryz.func19, Tryz.ntmps19
  go_wp2
  go_ret3
  exact ⟨rfl, O0.out.alloc _⟩
/-- Measure, of trees of depth d -/
def MzC (d : Nat) : Prop := ∀ (t : Vt) (lv : Value) (w : World) (S : Nat → Prop) (left nest : Int), VsAt w S d t.l lv → (∃ e, SmT e t) → 0 ≤ left → left ≤ 1024 → 0 ≤ nest → nest ≤ 1000 → Calls Tryz.prog 19 #[vV t.k t.n t.s lv, .int .i64 left, .int .i64 nest] w (mP (mz d t left nest) w)
set_option maxRecDepth 100000 in
set_option maxHeartbeats 8000000 in
theorem dz_list4 (d : Nat) (l : List Vt) (n : Int) (s : ByteArray) (ao : Option Addr) (c : Nat) (left nest : Int) (h1 : 1 ≤ left) (h2 : left ≤ 1024) (h3 : 0 ≤ nest) (h4 : nest ≤ 32) (hL : l.length ≤ 1048576) (hsm : ∀ x ∈ l, ∃ e, SmT e x) (w : World) (S : Nat → Prop) (hv : VsAt w S (d + 1) l (.slice ao l.length c)) (H : MzC d) : Calls Tryz.prog 19 #[vV 4 n s (.slice ao l.length c), .int .i64 left, .int .i64 nest] w (mP (mzL (fun x lf => mz d x lf (nest + 1)) true left l 1 0) w) := by
  obtain ⟨ao', cap', hva, hcap, hl⟩ := hv
  obtain ⟨rfl, rfl⟩ : ao = ao' ∧ c = cap' := by
    injection hva with q1 q2 q3
    exact ⟨q1, q3⟩
  obtain ⟨f, hf⟩ : ∃ f : Vt → Int → Int × Int × Bool, f = fun x lf => mz d x lf (nest + 1) := ⟨_, rfl⟩
  have HP : Hid (∀ (i : Nat) (x : Vt), l[i]? = some x → ∃ g k lx, ao = some ⟨g, k, none⟩ ∧ (w.cell? ⟨g, k + i * 4, none⟩ = some (.int .i64 x.k) ∧ w.cell? ⟨g, k + i * 4 + 1, none⟩ = some (.int .i64 x.n) ∧ w.cell? ⟨g, k + i * 4 + 2, none⟩ = some (.string x.s) ∧ w.cell? ⟨g, k + i * 4 + 3, none⟩ = some lx) ∧ ∀ w1 lf, Only (fun _ => False) w w1 → 0 ≤ lf → lf ≤ 1024 → Calls Tryz.prog 19 #[.agg #[.int .i64 x.k, .int .i64 x.n, .string x.s, lx], .int .i64 lf, .int .i64 (nest + 1)] w1 fun e w' => e = .returned (.tuple #[.int .i64 (f x lf).1, .int .i64 (f x lf).2.1, .bool (f x lf).2.2]) ∧ Only (fun _ => False) w1 w') := by
    intro i x hx
    obtain ⟨g, k, lx, p1, p2, p3, p4⟩ := hl i x hx
    refine ⟨g, k, lx, p1, p3, fun w1 lf o1 q1 q2 => ?_⟩
    rw [hf]
    exact H x lx w1 S lf (nest + 1) (p4.only o1) (hsm x (List.mem_of_getElem? hx)) q1 q2 (by omega) (by omega)
  have HF : Hid (∀ x lf, (f x lf).2.2 = true → 1 ≤ (f x lf).1 ∧ (f x lf).1 ≤ lf ∧ 0 ≤ (f x lf).2.1 ∧ (f x lf).2.1 ≤ 32) := by
    intro x lf
    rw [hf]
    exact mz_bd d x lf (nest + 1)
  rw [← hf]
  obtain ⟨R, hR⟩ : ∃ R, R = mzL f true left l 1 0 := ⟨_, rfl⟩
  have HR : Hid (R = mzL f true left l 1 0) := hR
  obtain ⟨N, hN⟩ : ∃ N, N = l.length := ⟨_, rfl⟩
  have HNN : Hid (N = l.length ∧ N ≤ 1048576) := ⟨hN, by omega⟩
  rw [← hN, ← hR]
  clear hN hR hL hsm H hl hcap hva hf
  unfold mP vV
  obtain ⟨B, hB⟩ : ∃ B, B = w.heap.size := ⟨_, rfl⟩
  obtain ⟨w0, hw0⟩ : ∃ w0, w0 = w.alloc (.cells #[.int .i64 4, .int .i64 n, .string s, .slice ao N c] 24) := ⟨_, rfl⟩
  have HO : Hid (Only (fun _ => False) w w0) := by rw [hw0]; exact (Only.refl _ w).alloc _
  have HX : Hid (w0.heap[B]? = some (.cells #[.int .i64 4, .int .i64 n, .string s, .slice ao N c] 24)) := by rw [hw0]; exact valloc_at _ _ _ hB
  go_enter Tryz.func19, Tryz.ntmps19
  go_wp2
  rw [← hB, ← hw0]
  clear hB hw0
  go_loopw [6, 7, 9] (fun r6 r7 r9 wr => ∃ (i : Nat) (z p : Int), r6 = .int .i64 z ∧ r7 = .int .i64 p ∧ r9 = .int .i64 (i : Int) ∧ i ≤ N ∧ Hid (R = mzL f true left (l.drop i) z p ∧ (1 ≤ z ∧ z ≤ left ∧ 0 ≤ p ∧ p ≤ 32) ∧ Only (fun _ => False) w0 wr)) (fun _ _ r9 _ => N - vuOf r9)
  case atStart => exact ⟨0, 1, 0, rfl, rfl, rfl, Nat.zero_le _, HR.out, ⟨by decide, h1, by decide, by decide⟩, Only.refl _ _⟩
  case round =>
    obtain ⟨i, z, p, rfl, rfl, rfl, hi, HI⟩ := hrel
    obtain ⟨w1, hw1⟩ : ∃ w1, w1 = wr := ⟨_, rfl⟩
    rw [← hw1] at HI ⊢
    clear hw1
    obtain ⟨hRz, ⟨b1, b2, b3, b4⟩, oI⟩ := HI.out
    have hX := (oI.block B (Array.getElem?_eq_some_iff.1 HX.out).1 (fun g => g)).trans HX.out
    have b0 := vblk_cells hX 0
    have b5 := vblk_cells hX 3
    simp only [List.getElem?_toArray, List.getElem?_cons_zero, List.getElem?_cons_succ] at b0 b5
    clear hX
    have hNl := HNN.out.1
    have hN4 := HNN.out.2
    have OI : Hid (Only (fun _ => False) w0 w1) := oI
    by_cases hiN : i < N
    · obtain ⟨x, hx⟩ : ∃ x, l[i]? = some x := ⟨l[i]'(by omega), List.getElem?_eq_getElem (by omega)⟩
      obtain ⟨g, k, lx, rfl, ⟨c0, c1, c2, c3⟩, hcall⟩ := HP.out i x hx
      have oo := HO.out.trans oI (fun _ _ g => g)
      have c0 := oo.cell c0 (fun g => g)
      have c1 := oo.cell c1 (fun g => g)
      have c2 := oo.cell c2 (fun g => g)
      have c3 := oo.cell c3 (fun g => g)
      have hdr : l.drop i = x :: l.drop (i + 1) := by
        have hlt : i < l.length := by omega
        rw [List.drop_eq_getElem_cons hlt]
        have := List.getElem?_eq_getElem hlt
        rw [hx] at this
        injection this with this
        rw [← this]
      rw [hdr] at hRz
      unfold mzL at hRz
      have HFx := HF.out x (left - z)
      have HC0 := hcall w1 (left - z) oo (by omega) (by omega)
      obtain ⟨q, hq⟩ : ∃ q, q = f x (left - z) := ⟨_, rfl⟩
      rw [← hq] at hRz HFx HC0
      obtain ⟨n1, d1, ok⟩ := q
      dsimp only at hRz HFx HC0
      have HC : Hid _ := HC0
      have i1 : (i : Int) < (N : Int) := by omega
      have i0 : (0 : Int) ≤ (i : Int) := by omega
      have hi4 : i ≤ 1048576 := by omega
      have HBd : Hid (i < N) := hiN
      obtain ⟨x0, hx0⟩ : ∃ x0, x0 = x.k := ⟨_, rfl⟩
      obtain ⟨x1, hx1⟩ : ∃ x1, x1 = x.n := ⟨_, rfl⟩
      obtain ⟨x2, hx2⟩ : ∃ x2, x2 = x.s := ⟨_, rfl⟩
      rw [← hx0, ← hx1, ← hx2] at HC
      rw [← hx0] at c0 hRz
      rw [← hx1] at c1
      rw [← hx2] at c2
      clear hx0 hx1 hx2 hcall oo hx hdr hq HC0 HI oI hNl hN4 hiN hi HP
      by_cases h7 : x0 = 7
      · rw [if_pos ⟨rfl, h7⟩] at hRz
        have HE : Hid (R = (0, 0, false)) := hRz
        subst h7
        clear hRz HFx HC b1 b2 b3 b4
        go_wp2
        go_ret3
        refine ⟨by rw [HE.out]; rfl, HO.out.trans OI.out (fun _ _ g => g)⟩
      rw [if_neg (fun g => h7 g.2)] at hRz
      have f1 : left - z ≤ 1024 := by omega
      have f2 : 0 ≤ left - z := by omega
      go_wp2_with fail
      refine (show Calls Tryz.prog 19 _ _ _ from HC.out).mono ?_
      rintro e w2 ⟨rfl, o2⟩
      have HK : Hid (Only (fun _ => False) w0 w2) := OI.out.trans o2 (fun _ _ g => g)
      clear HC OI o2 c0 c1 c2 c3 b0 b5
      cases ok with
      | false =>
        rw [if_neg (by decide)] at hRz
        have HE : Hid (R = (0, 0, false)) := hRz
        clear hRz HFx b1 b2 b3 b4 f1 f2
        go_wp2
        go_ret3
        refine ⟨by rw [HE.out]; rfl, HO.out.trans HK.out (fun _ _ g => g)⟩
      | true =>
        rw [if_pos rfl] at hRz
        obtain ⟨a1, a2, a3, a4⟩ := HFx rfl
        have HE : Hid (R = mzL f true left (l.drop (i + 1)) (z + n1) (max p d1) ∧ (1 ≤ z + n1 ∧ z + n1 ≤ left ∧ 0 ≤ max p d1 ∧ max p d1 ≤ 32)) := ⟨hRz, by omega, by omega, by omega, by omega⟩
        have f3 : z + n1 ≤ 1024 := by omega
        clear hRz HFx
        go_wp2
        all_goals
          go_roundw
          case rel => exact ⟨i + 1, z + n1, max p d1, rfl, rfl, by go_num, by have := HBd.out; omega, HE.out.1, HE.out.2, HK.out⟩
          case measure => simp only [vuOf]; have := HBd.out; omega
    · obtain rfl : i = N := by omega
      have i1 : ¬ (i : Int) < (i : Int) := by omega
      rw [List.drop_eq_nil_of_le (show l.length ≤ i by omega)] at hRz
      have HE : Hid (R = (z, p + 1, decide (p < 32))) := hRz
      clear hRz HI oI hNl hN4 hiN hi
      go_wp2
      go_ret3
      exact ⟨by rw [HE.out]; rfl, HO.out.trans OI.out (fun _ _ g => g)⟩
set_option maxRecDepth 100000 in
set_option maxHeartbeats 8000000 in
theorem dz_list5 (d : Nat) (l : List Vt) (n : Int) (s : ByteArray) (ao : Option Addr) (c : Nat) (left nest : Int) (h1 : 1 ≤ left) (h2 : left ≤ 1024) (h3 : 0 ≤ nest) (h4 : nest ≤ 32) (hL : l.length ≤ 1048576) (hsm : ∀ x ∈ l, ∃ e, SmT e x) (w : World) (S : Nat → Prop) (hv : VsAt w S (d + 1) l (.slice ao l.length c)) (H : MzC d) : Calls Tryz.prog 19 #[vV 5 n s (.slice ao l.length c), .int .i64 left, .int .i64 nest] w (mP (mzL (fun x lf => mz d x lf (nest + 1)) false left l 1 0) w) := by
  obtain ⟨ao', cap', hva, hcap, hl⟩ := hv
  obtain ⟨rfl, rfl⟩ : ao = ao' ∧ c = cap' := by
    injection hva with q1 q2 q3
    exact ⟨q1, q3⟩
  obtain ⟨f, hf⟩ : ∃ f : Vt → Int → Int × Int × Bool, f = fun x lf => mz d x lf (nest + 1) := ⟨_, rfl⟩
  have HP : Hid (∀ (i : Nat) (x : Vt), l[i]? = some x → ∃ g k lx, ao = some ⟨g, k, none⟩ ∧ (w.cell? ⟨g, k + i * 4, none⟩ = some (.int .i64 x.k) ∧ w.cell? ⟨g, k + i * 4 + 1, none⟩ = some (.int .i64 x.n) ∧ w.cell? ⟨g, k + i * 4 + 2, none⟩ = some (.string x.s) ∧ w.cell? ⟨g, k + i * 4 + 3, none⟩ = some lx) ∧ ∀ w1 lf, Only (fun _ => False) w w1 → 0 ≤ lf → lf ≤ 1024 → Calls Tryz.prog 19 #[.agg #[.int .i64 x.k, .int .i64 x.n, .string x.s, lx], .int .i64 lf, .int .i64 (nest + 1)] w1 fun e w' => e = .returned (.tuple #[.int .i64 (f x lf).1, .int .i64 (f x lf).2.1, .bool (f x lf).2.2]) ∧ Only (fun _ => False) w1 w') := by
    intro i x hx
    obtain ⟨g, k, lx, p1, p2, p3, p4⟩ := hl i x hx
    refine ⟨g, k, lx, p1, p3, fun w1 lf o1 q1 q2 => ?_⟩
    rw [hf]
    exact H x lx w1 S lf (nest + 1) (p4.only o1) (hsm x (List.mem_of_getElem? hx)) q1 q2 (by omega) (by omega)
  have HF : Hid (∀ x lf, (f x lf).2.2 = true → 1 ≤ (f x lf).1 ∧ (f x lf).1 ≤ lf ∧ 0 ≤ (f x lf).2.1 ∧ (f x lf).2.1 ≤ 32) := by
    intro x lf
    rw [hf]
    exact mz_bd d x lf (nest + 1)
  rw [← hf]
  obtain ⟨R, hR⟩ : ∃ R, R = mzL f false left l 1 0 := ⟨_, rfl⟩
  have HR : Hid (R = mzL f false left l 1 0) := hR
  obtain ⟨N, hN⟩ : ∃ N, N = l.length := ⟨_, rfl⟩
  have HNN : Hid (N = l.length ∧ N ≤ 1048576) := ⟨hN, by omega⟩
  rw [← hN, ← hR]
  clear hN hR hL hsm H hl hcap hva hf
  unfold mP vV
  obtain ⟨B, hB⟩ : ∃ B, B = w.heap.size := ⟨_, rfl⟩
  obtain ⟨w0, hw0⟩ : ∃ w0, w0 = w.alloc (.cells #[.int .i64 5, .int .i64 n, .string s, .slice ao N c] 24) := ⟨_, rfl⟩
  have HO : Hid (Only (fun _ => False) w w0) := by rw [hw0]; exact (Only.refl _ w).alloc _
  have HX : Hid (w0.heap[B]? = some (.cells #[.int .i64 5, .int .i64 n, .string s, .slice ao N c] 24)) := by rw [hw0]; exact valloc_at _ _ _ hB
  go_enter Tryz.func19, Tryz.ntmps19
  go_wp2
  rw [← hB, ← hw0]
  clear hB hw0
  go_loopw [6, 7, 9] (fun r6 r7 r9 wr => ∃ (i : Nat) (z p : Int), r6 = .int .i64 z ∧ r7 = .int .i64 p ∧ r9 = .int .i64 (i : Int) ∧ i ≤ N ∧ Hid (R = mzL f false left (l.drop i) z p ∧ (1 ≤ z ∧ z ≤ left ∧ 0 ≤ p ∧ p ≤ 32) ∧ Only (fun _ => False) w0 wr)) (fun _ _ r9 _ => N - vuOf r9)
  case atStart => exact ⟨0, 1, 0, rfl, rfl, rfl, Nat.zero_le _, HR.out, ⟨by decide, h1, by decide, by decide⟩, Only.refl _ _⟩
  case round =>
    obtain ⟨i, z, p, rfl, rfl, rfl, hi, HI⟩ := hrel
    obtain ⟨w1, hw1⟩ : ∃ w1, w1 = wr := ⟨_, rfl⟩
    rw [← hw1] at HI ⊢
    clear hw1
    obtain ⟨hRz, ⟨b1, b2, b3, b4⟩, oI⟩ := HI.out
    have hX := (oI.block B (Array.getElem?_eq_some_iff.1 HX.out).1 (fun g => g)).trans HX.out
    have b0 := vblk_cells hX 0
    have b5 := vblk_cells hX 3
    simp only [List.getElem?_toArray, List.getElem?_cons_zero, List.getElem?_cons_succ] at b0 b5
    clear hX
    have hNl := HNN.out.1
    have hN4 := HNN.out.2
    have OI : Hid (Only (fun _ => False) w0 w1) := oI
    by_cases hiN : i < N
    · obtain ⟨x, hx⟩ : ∃ x, l[i]? = some x := ⟨l[i]'(by omega), List.getElem?_eq_getElem (by omega)⟩
      obtain ⟨g, k, lx, rfl, ⟨c0, c1, c2, c3⟩, hcall⟩ := HP.out i x hx
      have oo := HO.out.trans oI (fun _ _ g => g)
      have c0 := oo.cell c0 (fun g => g)
      have c1 := oo.cell c1 (fun g => g)
      have c2 := oo.cell c2 (fun g => g)
      have c3 := oo.cell c3 (fun g => g)
      have hdr : l.drop i = x :: l.drop (i + 1) := by
        have hlt : i < l.length := by omega
        rw [List.drop_eq_getElem_cons hlt]
        have := List.getElem?_eq_getElem hlt
        rw [hx] at this
        injection this with this
        rw [← this]
      rw [hdr] at hRz
      unfold mzL at hRz
      have HFx := HF.out x (left - z)
      have HC0 := hcall w1 (left - z) oo (by omega) (by omega)
      obtain ⟨q, hq⟩ : ∃ q, q = f x (left - z) := ⟨_, rfl⟩
      rw [← hq] at hRz HFx HC0
      obtain ⟨n1, d1, ok⟩ := q
      dsimp only at hRz HFx HC0
      have HC : Hid _ := HC0
      have i1 : (i : Int) < (N : Int) := by omega
      have i0 : (0 : Int) ≤ (i : Int) := by omega
      have hi4 : i ≤ 1048576 := by omega
      have HBd : Hid (i < N) := hiN
      obtain ⟨x0, hx0⟩ : ∃ x0, x0 = x.k := ⟨_, rfl⟩
      obtain ⟨x1, hx1⟩ : ∃ x1, x1 = x.n := ⟨_, rfl⟩
      obtain ⟨x2, hx2⟩ : ∃ x2, x2 = x.s := ⟨_, rfl⟩
      rw [← hx0, ← hx1, ← hx2] at HC
      rw [← hx0] at c0 hRz
      rw [← hx1] at c1
      rw [← hx2] at c2
      clear hx0 hx1 hx2 hcall oo hx hdr hq HC0 HI oI hNl hN4 hiN hi HP
      rw [if_neg (fun g => by cases g.1)] at hRz
      have f1 : left - z ≤ 1024 := by omega
      have f2 : 0 ≤ left - z := by omega
      go_wp2_with fail
      refine (show Calls Tryz.prog 19 _ _ _ from HC.out).mono ?_
      rintro e w2 ⟨rfl, o2⟩
      have HK : Hid (Only (fun _ => False) w0 w2) := OI.out.trans o2 (fun _ _ g => g)
      clear HC OI o2 c0 c1 c2 c3 b0 b5
      cases ok with
      | false =>
        rw [if_neg (by decide)] at hRz
        have HE : Hid (R = (0, 0, false)) := hRz
        clear hRz HFx b1 b2 b3 b4 f1 f2
        go_wp2
        go_ret3
        refine ⟨by rw [HE.out]; rfl, HO.out.trans HK.out (fun _ _ g => g)⟩
      | true =>
        rw [if_pos rfl] at hRz
        obtain ⟨a1, a2, a3, a4⟩ := HFx rfl
        have HE : Hid (R = mzL f false left (l.drop (i + 1)) (z + n1) (max p d1) ∧ (1 ≤ z + n1 ∧ z + n1 ≤ left ∧ 0 ≤ max p d1 ∧ max p d1 ≤ 32)) := ⟨hRz, by omega, by omega, by omega, by omega⟩
        have f3 : z + n1 ≤ 1024 := by omega
        clear hRz HFx
        go_wp2
        all_goals
          go_roundw
          case rel => exact ⟨i + 1, z + n1, max p d1, rfl, rfl, by go_num, by have := HBd.out; omega, HE.out.1, HE.out.2, HK.out⟩
          case measure => simp only [vuOf]; have := HBd.out; omega
    · obtain rfl : i = N := by omega
      have i1 : ¬ (i : Int) < (i : Int) := by omega
      rw [List.drop_eq_nil_of_le (show l.length ≤ i by omega)] at hRz
      have HE : Hid (R = (z, p + 1, decide (p < 32))) := hRz
      clear hRz HI oI hNl hN4 hiN hi
      go_wp2
      go_ret3
      exact ⟨by rw [HE.out]; rfl, HO.out.trans OI.out (fun _ _ g => g)⟩
theorem dz_any : ∀ d : Nat, MzC d
  | 0 => fun t lv w S left nest h => h.elim
  | d + 1 => by
    intro t lv w S left nest hv hs h1 h2 h3 h4
    have ih := dz_any d
    obtain ⟨e, hs⟩ := hs
    cases e with
    | zero => exact hs.elim
    | succ e =>
    obtain ⟨s1, s2, s3, s4, s5⟩ := hs
    obtain ⟨ao, cap, rfl⟩ := hv.form
    unfold mz
    by_cases c1 : left < 1 ∨ 32 < nest
    · rw [if_pos c1]
      by_cases c : left < 1
      · exact dz_left _ _ _ ao _ cap left nest c w
      · exact dz_nest _ _ _ ao _ cap left nest (by omega) (by omega) w
    rw [if_neg c1]
    have l1 : 1 ≤ left := by omega
    have n1 : nest ≤ 32 := by omega
    by_cases c2 : t.k = 4 ∨ t.k = 5
    · rw [if_pos c2]
      rcases c2 with c | c
      · rw [c]
        exact dz_list4 d t.l _ _ ao cap left nest l1 h2 h3 n1 s2 (fun x hx => ⟨e, s5 x hx⟩) w S hv ih
      · rw [c]
        exact dz_list5 d t.l _ _ ao cap left nest l1 h2 h3 n1 s2 (fun x hx => ⟨e, s5 x hx⟩) w S hv ih
    rw [if_neg c2]
    by_cases k1 : t.k = 1
    · rw [if_pos (by omega), if_neg (by omega), show alB t = (decide (-1152921504606846976 ≤ t.n) && decide (t.n ≤ 1152921504606846975)) from if_pos k1, k1]
      exact dz_int _ _ ao _ cap left nest l1 n1 w
    by_cases k2 : t.k = 2
    · rw [if_pos (by omega), if_neg (by omega), show alB t = (decide (t.s.size ≤ 4096) && vlB t.s) from (if_neg k1).trans (if_pos k2), k2]
      by_cases g : t.s.size ≤ 4096
      · rw [decide_eq_true g, Bool.true_and]
        by_cases b : stR t.s < t.s.size
        · rw [show vlB t.s = false from by cases hb : vlB t.s with | false => rfl | true => exact absurd b ((vl_st _).1 hb)]
          exact dz_bad _ _ ao _ cap left nest l1 n1 g b w
        · rw [(vl_st _).2 b]
          exact dz_str _ _ ao _ cap left nest l1 n1 g b w
      · rw [decide_eq_false g, Bool.false_and]
        exact dz_long _ _ ao _ cap left nest l1 n1 (by omega) w
    by_cases k3 : t.k = 3
    · rw [if_pos (by omega), if_neg (by omega), show alB t = true from (if_neg k1).trans ((if_neg k2).trans ((if_neg (by omega)).trans (decide_eq_true k3))), k3]
      exact dz_bool _ _ ao _ cap left nest l1 n1 w
    by_cases k6 : t.k = 6
    · rw [if_pos (by omega), if_neg (by omega), show alB t = (decide (1 ≤ t.n) && decide (t.n ≤ 1048576)) from (if_neg k1).trans ((if_neg k2).trans (if_pos k6)), k6]
      cases g1 : decide (1 ≤ t.n) with
      | false => rw [Bool.false_and]; exact dz_box_lo _ _ ao _ cap left nest l1 n1 g1 w
      | true =>
        cases g2 : decide (t.n ≤ 1048576) with
        | false => rw [Bool.and_false]; exact dz_box_hi _ _ ao _ cap left nest l1 n1 g1 g2 w
        | true => exact dz_box _ _ ao _ cap left nest l1 n1 g1 g2 w
    by_cases k7 : t.k = 7
    · rw [if_pos (by omega), if_pos k7, k7]
      exact dz_call _ _ ao _ cap left nest l1 n1 (by omega) w
    rw [if_neg (by omega)]
    have b : ∀ j : Int, t.k ≠ j → (t.k == j) = false := fun j h => beq_false_of_ne h
    exact dz_none _ _ _ ao _ cap left nest l1 n1 (b 1 k1) (b 2 k2) (b 3 k3) (b 4 (fun g => c2 (.inl g))) (b 5 (fun g => c2 (.inr g))) (b 6 k6) (b 7 k7) w
set_option maxRecDepth 100000 in
/-- Sound -/
theorem dsound_any {d : Nat} {t : Vt} {lv : Value} {w : World} {S : Nat → Prop} (hv : VsAt w S d t.l lv) (hs : ∃ e, SmT e t) : Calls Tryz.prog 8 #[vV t.k t.n t.s lv] w fun e w' => e = .returned (.bool (dsB d t)) ∧ Only (fun _ => False) w w' := by
  obtain ⟨ao, cap, rfl⟩ := hv.form
  obtain ⟨k, n, s, l⟩ := t
  dsimp only at hv ⊢
  obtain ⟨r, hr⟩ : ∃ r, r = mz d ⟨k, n, s, l⟩ 1024 0 := ⟨_, rfl⟩
  have HC : Hid (∀ w1, Only (fun _ => False) w w1 → Calls Tryz.prog 19 #[.agg #[.int .i64 k, .int .i64 n, .string s, .slice ao l.length cap], .int .i64 1024, .int .i64 0] w1 fun e w' => e = .returned (.tuple #[.int .i64 r.1, .int .i64 r.2.1, .bool r.2.2]) ∧ Only (fun _ => False) w1 w') := fun w1 o1 => by
    rw [hr]
    exact dz_any d ⟨k, n, s, l⟩ _ w1 S 1024 0 (hv.only o1) hs (by decide) (by decide) (by decide) (by decide)
  unfold dsB vV
  rw [← hr]
  obtain ⟨r1, r2, r3⟩ := r
  dsimp only at HC ⊢
  have O0 : Hid (Only (fun _ => False) w w) := Only.refl _ _
  obtain ⟨L, hL⟩ : ∃ L, L = l.length := ⟨_, rfl⟩
  rw [← hL] at HC ⊢
  clear hv hs hr hL
  go_enter Tryz.func8, Tryz.ntmps8
  go_wp2_with fail
  refine (show Calls Tryz.prog 19 _ _ _ from HC.out _ (O0.out.alloc _)).mono ?_
  rintro e w1 ⟨rfl, o1⟩
  have O1 : Hid (Only (fun _ => False) w w1) := (O0.out.alloc _).trans o1 (fun _ _ g => g)
  have cc : w1.cell? ⟨w.heap.size, 0, none⟩ = some (.int .i64 k) := by
    have R := (o1.block w.heap.size (by simp) (fun h => h)).trans (valloc_at _ _ _ rfl)
    exact vblk_cells R 0
  clear HC o1
  cases r3 with
  | false =>
    go_wp2
    go_ret
    exact ⟨rfl, O1.out⟩
  | true =>
    by_cases h7 : k = 7
    · subst h7
      go_wp2
      go_ret
      exact ⟨rfl, O1.out⟩
    · have e7 : (k != 7) = true := by simp [h7]
      have H7 : Hid (k ≠ 7) := h7
      clear h7
      go_wp2
      go_ret
      exact ⟨by simp [H7.out], O1.out⟩
end Go.Proofs.YtllpacppedobjaaGreatDoor
