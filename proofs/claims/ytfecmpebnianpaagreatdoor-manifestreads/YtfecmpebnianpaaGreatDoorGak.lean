/- Many values as trees: Trees, ItemTrees. A definition as the document has it: DefTree. Forms as the document has them: FormTrees. Sources one behind the other: too many tokens; what both are read as. Sources one behind the other: forms. The numbers by which the library's contracts on strings.Cut and strings.Split stand over this program. The lines of a text of vocabularies, and what they are read as: plain functions; strings.Cut and strings.Split. -/
import Derived.Test.YtfecmpebnianpaaGreatDoorGaj
import Derived.Shelf.Strings.SplitShaped
import Derived.Shelf.Strings.Shaped
import Derived.Test.YtfecmpebnianpaaGreatDoorProg
import Derived.Test.YtfecmpebnianpaaGreatDoorGai
import Derived.Test.YtfecmpebnianpaaGreatDoorGad
namespace Go.Proofs.YtfecmpebnianpaaGreatDoor
open Go.RowKit
set_option linter.unusedSimpArgs false
set_option linter.unusedVariables false
set_option maxRecDepth 100000 in
theorem v_info : ∃ i z, Tryz.prog.info? 100 = some i ∧ i.zero = some z ∧ i.size = 4 ∧ i.bytes = 56 ∧ z.cells.size = 4 := ⟨_, _, rfl, rfl, rfl, rfl, rfl⟩
set_option maxRecDepth 100000 in
set_option maxHeartbeats 4000000 in
theorem trees_of (d : Nat) (H : TeC d 80 false) : TsC d 106 false := by
  intro v l w S hq hl hw
  obtain ⟨av, cv, rfl, hcv, hel⟩ := hq
  have HE : Hid (∀ (j : Nat) (x : Tre), l[j]? = some x → ∃ g k u, av = some ⟨g, k, none⟩ ∧ w.cell? ⟨g, k + j, none⟩ = some u ∧ ∀ w1, Only (fun _ => False) w w1 → Calls Tryz.prog 80 #[u] w1 fun e w' => ∃ lv, e = .returned (.agg #[.int .i64 (x.k : Int), .int .i64 (vn x), .string (vs x), lv]) ∧ Hid (NvAt w' w1.heap.size d x lv ∧ Only (fun _ => False) w1 w')) := by
    intro j x hx
    obtain ⟨g, k, u, ha, hg, hc, ht⟩ := hel j x hx
    exact ⟨g, k, u, ha, hc, fun w1 o1 => H u x w1 S (ht.step (fun _ g => g) (fun a u _ hc => o1.cell hc (fun g => g)) (Nat.le_refl _)) (hw x (List.mem_of_getElem? hx))⟩
  have HLB : Hid (l.length ≤ 4096) := hl
  clear hcv hel hl hw H
  obtain ⟨N, hN⟩ : ∃ N, N = l.length := ⟨_, rfl⟩
  have HNN : Hid (N = l.length) := hN
  rw [← hN]
  clear hN
  go_enter Tryz.func106, Tryz.ntmps106
  go_wp2
  go_loopw [3, 4] (fun r3 r4 wr => ∃ (i : Nat) (ao : Option Addr) (cap : Nat), r3 = .slice ao i cap ∧ r4 = .int .i64 (i : Int) ∧ i ≤ N ∧ Hid (VrAt wr w.heap.size d (.slice ao i cap) (l.take i) ∧ Only (fun _ => False) w wr)) (fun _ r4 _ => N - uOf r4)
  case atStart => exact ⟨0, none, 0, rfl, rfl, Nat.zero_le _, vr_nil _ _ _, Only.refl _ _⟩
  case round =>
    obtain ⟨i, ao, cap, rfl, rfl, hi, HI⟩ := hrel
    obtain ⟨w1, rfl⟩ : ∃ w1, w1 = wr := ⟨_, rfl⟩
    have hNl : N = l.length := HNN.out
    have hN4 : l.length ≤ 4096 := HLB.out
    by_cases hiN : i < N
    · obtain ⟨x, hx⟩ : ∃ x, l[i]? = some x := ⟨l[i]'(by omega), List.getElem?_eq_getElem (by omega)⟩
      obtain ⟨g, k, u, rfl, hc, hcall⟩ := HE.out i x hx
      have hc1 : w1.cell? ⟨g, k + i, none⟩ = some u := HI.out.2.cell hc (fun g => g)
      have HC : Hid (Calls Tryz.prog 80 #[u] w1 fun e w' => ∃ lv, e = .returned (.agg #[.int .i64 (x.k : Int), .int .i64 (vn x), .string (vs x), lv]) ∧ Hid (NvAt w' w1.heap.size d x lv ∧ Only (fun _ => False) w1 w')) := hcall w1 HI.out.2
      have HX : Hid (l.take i ++ [x] = l.take (i + 1) ∧ (l.take i).length = i) := by
        have hil : i < l.length := by omega
        refine ⟨?_, by simp; omega⟩
        rw [List.take_add_one, hx]
        rfl
      have HB : Hid (i < N ∧ N ≤ 4096) := ⟨hiN, by omega⟩
      have i1 : (i : Int) < (N : Int) := by omega
      have i0 : (0 : Int) ≤ (i : Int) := by omega
      clear hc hcall HE hNl hN4 hx
      obtain ⟨x0, hx0⟩ : ∃ x0, x0 = (x.k : Int) := ⟨_, rfl⟩
      obtain ⟨x1, hx1⟩ : ∃ x1, x1 = vn x := ⟨_, rfl⟩
      obtain ⟨x2, hx2⟩ : ∃ x2, x2 = vs x := ⟨_, rfl⟩
      have HXX : Hid (x0 = (x.k : Int) ∧ x1 = vn x ∧ x2 = vs x) := ⟨hx0, hx1, hx2⟩
      rw [← hx0, ← hx1, ← hx2] at HC
      clear hx0 hx1 hx2
      go_wp2_with fail
      refine (show Calls Tryz.prog 80 _ _ _ from HC.out).mono ?_
      rintro e w2 ⟨lv, rfl, g2⟩
      obtain ⟨al, cl, hlv⟩ := g2.out.1.form
      have W4 : VrAt (w2.alloc (.cells #[.int .i64 x0, .int .i64 x1, .string x2, lv] 100)) w.heap.size d (.slice ao i cap) (l.take i) := (HI.out.1.only g2.out.2 (fun _ _ h => h)).only ((Only.refl (fun _ => False) w2).alloc _) (fun _ _ h => h)
      have N4 : NvAt (w2.alloc (.cells #[.int .i64 x0, .int .i64 x1, .string x2, lv] 100)) w1.heap.size d x lv := g2.out.1.only ((Only.refl (fun _ => False) w2).alloc _) (fun _ _ h => h)
      have O4 : Only (fun _ => False) w (w2.alloc (.cells #[.int .i64 x0, .int .i64 x1, .string x2, lv] 100)) := (HI.out.2.trans g2.out.2 (fun _ _ g => g)).alloc _
      have hlt : ∀ k, (Value.slice ao i cap).ownBlock = some k → k < w1.heap.size := fun k hk => by
        obtain ⟨us, S', hr, _⟩ := HI.out.1
        exact (hr.lt k hk).2
      have hsz1 : w.heap.size ≤ w1.heap.size := HI.out.2.size
      have hsz2 : w1.heap.size ≤ w2.heap.size := g2.out.2.size
      obtain ⟨us, SS, hown, htr, hSS⟩ := W4
      rw [HX.out.2] at hown
      have HOW : Hid ((w2.alloc (.cells #[.int .i64 x0, .int .i64 x1, .string x2, lv] 100)).ownsRow w.heap.size 100 4 (.slice ao i cap) i us) := hown
      have HAL : Hid (_ ∧ _ ∧ NvAt (w2.alloc (.cells #[.int .i64 x0, .int .i64 x1, .string x2, lv] 100)) w1.heap.size d x lv ∧ Only (fun _ => False) w (w2.alloc (.cells #[.int .i64 x0, .int .i64 x1, .string x2, lv] 100)) ∧ w.heap.size ≤ w1.heap.size ∧ (∀ k, (Value.slice ao i cap).ownBlock = some k → k < w1.heap.size)) := ⟨htr, hSS, N4, O4, hsz1, hlt⟩
      subst hlv
      obtain ⟨i0', z0, hi', hz0, hz1, hz2, hz3⟩ := v_info
      obtain ⟨xl, hxl⟩ : ∃ xl, xl = x.l.length := ⟨_, rfl⟩
      rw [← hxl] at HOW HAL
      rw [← hxl]
      clear N4 O4 hown htr hSS hlt g2 HI HC hxl
      go_wp2_with (at_builtin; refine wpList_append_own_at _ rfl _ _ 69 rfl w.heap.size 100 i0' z0 4 56 Tryz.underlying69 hi' hz0 hz1 hz2 hz3 (by decide) _ i us rfl HOW.out ⟨w2.heap.size, 0, none⟩ 1 1 [.int .i64 x0, .int .i64 x1, .string x2, .slice al xl cl] rfl rfl ?c1 ?c2 ?c3 ?c4 ?c5 ?_)
      case c1 =>
        intro j u hj
        rcases j with _ | _ | _ | _ | j <;> simp at hj <;> subst hj <;> simp [Addr.add]
      case c2 =>
        intro u hu
        simp only [List.mem_cons, List.not_mem_nil, or_false] at hu
        rcases hu with rfl | rfl | rfl | rfl <;> rfl
      case c3 => have := HB.out; unfold maxLen; omega
      case c4 => have := HB.out; omega
      case c5 => simp; omega
      intro v' w4 hown' hgrow _ hat
      obtain ⟨a1, a2, a3, a4, a5, a6⟩ := HAL.out
      obtain ⟨e0, e1, e2⟩ := HXX.out
      have W5 : VrAt w4 w.heap.size d v' (l.take i ++ [x]) := VrAt.snoc hgrow (by rw [HX.out.2]; exact HOW.out) a1 a2 a3 a5 a6 (by rw [HX.out.2, ← e0, ← e1, ← e2]; exact hown') (by simpa using hat)
      rw [HX.out.1] at W5
      have og : Only (fun k => (Value.slice ao i cap).ownBlock = some k) (w2.alloc (.cells #[.int .i64 x0, .int .i64 x1, .string x2, .slice al xl cl] 100)) w4 := (Only.refl _ _).grown hgrow (fun k e _ => e)
      have O5 : Only (fun _ => False) w w4 := a4.trans og (fun k hk e => by have := (HOW.out.lt k e).1; omega)
      obtain ⟨ao', cap', hv'⟩ := W5.form
      have hlen : (l.take (i + 1)).length = i + 1 := by have : N = l.length := HNN.out; have := HB.out; simp; omega
      rw [hlen] at hv'
      subst hv'
      have HK5 : Hid (VrAt w4 w.heap.size d (.slice ao' (i + 1) cap') (l.take (i + 1)) ∧ Only (fun _ => False) w w4) := ⟨W5, O5⟩
      clear W5 O5 og HAL HOW hown' hgrow hat a1 a2 a3 a4 a5 a6 hi' hz0 hz1 hz2 hz3 hsz1 hsz2 e0 e1 e2 HXX hlen
      have hi4 : i ≤ 4096 := by have := HB.out; omega
      go_wp2
      go_roundw
      case rel => exact ⟨i + 1, ao', cap', rfl, by go_num, by omega, HK5⟩
      case measure => simp only [uOf]; have := HB.out; omega
    · obtain rfl : i = N := by omega
      have i1 : ¬ (i : Int) < (i : Int) := by omega
      have HK : Hid (VrAt w1 w.heap.size d (.slice ao i cap) l ∧ Only (fun _ => False) w w1) := by
        have := HI.out
        rw [hNl, List.take_length, ← hNl] at this
        exact this
      clear HI hNl hN4
      go_wp2
      go_ret
      exact ⟨ao, cap, rfl, HK⟩
set_option maxRecDepth 100000 in
set_option maxHeartbeats 4000000 in
theorem itrees_of (d : Nat) (H : TeC d 55 true) : TsC d 36 true := by
  intro v l w S hq hl hw
  obtain ⟨av, cv, rfl, hcv, hel⟩ := hq
  have HE : Hid (∀ (j : Nat) (x : Tre), l[j]? = some x → ∃ g k u, av = some ⟨g, k, none⟩ ∧ w.cell? ⟨g, k + j, none⟩ = some u ∧ ∀ w1, Only (fun _ => False) w w1 → Calls Tryz.prog 55 #[u] w1 fun e w' => ∃ lv, e = .returned (.agg #[.int .i64 (x.k : Int), .int .i64 (vn x), .string (vs x), lv]) ∧ Hid (NvAt w' w1.heap.size d x lv ∧ Only (fun _ => False) w1 w')) := by
    intro j x hx
    obtain ⟨g, k, u, ha, hg, hc, ht⟩ := hel j x hx
    exact ⟨g, k, u, ha, hc, fun w1 o1 => H u x w1 S (ht.step (fun _ g => g) (fun a u _ hc => o1.cell hc (fun g => g)) (Nat.le_refl _)) (hw x (List.mem_of_getElem? hx))⟩
  have HLB : Hid (l.length ≤ 4096) := hl
  clear hcv hel hl hw H
  obtain ⟨N, hN⟩ : ∃ N, N = l.length := ⟨_, rfl⟩
  have HNN : Hid (N = l.length) := hN
  rw [← hN]
  clear hN
  go_enter Tryz.func36, Tryz.ntmps36
  go_wp2
  go_loopw [3, 4] (fun r3 r4 wr => ∃ (i : Nat) (ao : Option Addr) (cap : Nat), r3 = .slice ao i cap ∧ r4 = .int .i64 (i : Int) ∧ i ≤ N ∧ Hid (VrAt wr w.heap.size d (.slice ao i cap) (l.take i) ∧ Only (fun _ => False) w wr)) (fun _ r4 _ => N - uOf r4)
  case atStart => exact ⟨0, none, 0, rfl, rfl, Nat.zero_le _, vr_nil _ _ _, Only.refl _ _⟩
  case round =>
    obtain ⟨i, ao, cap, rfl, rfl, hi, HI⟩ := hrel
    obtain ⟨w1, rfl⟩ : ∃ w1, w1 = wr := ⟨_, rfl⟩
    have hNl : N = l.length := HNN.out
    have hN4 : l.length ≤ 4096 := HLB.out
    by_cases hiN : i < N
    · obtain ⟨x, hx⟩ : ∃ x, l[i]? = some x := ⟨l[i]'(by omega), List.getElem?_eq_getElem (by omega)⟩
      obtain ⟨g, k, u, rfl, hc, hcall⟩ := HE.out i x hx
      have hc1 : w1.cell? ⟨g, k + i, none⟩ = some u := HI.out.2.cell hc (fun g => g)
      have HC : Hid (Calls Tryz.prog 55 #[u] w1 fun e w' => ∃ lv, e = .returned (.agg #[.int .i64 (x.k : Int), .int .i64 (vn x), .string (vs x), lv]) ∧ Hid (NvAt w' w1.heap.size d x lv ∧ Only (fun _ => False) w1 w')) := hcall w1 HI.out.2
      have HX : Hid (l.take i ++ [x] = l.take (i + 1) ∧ (l.take i).length = i) := by
        have hil : i < l.length := by omega
        refine ⟨?_, by simp; omega⟩
        rw [List.take_add_one, hx]
        rfl
      have HB : Hid (i < N ∧ N ≤ 4096) := ⟨hiN, by omega⟩
      have i1 : (i : Int) < (N : Int) := by omega
      have i0 : (0 : Int) ≤ (i : Int) := by omega
      clear hc hcall HE hNl hN4 hx
      obtain ⟨x0, hx0⟩ : ∃ x0, x0 = (x.k : Int) := ⟨_, rfl⟩
      obtain ⟨x1, hx1⟩ : ∃ x1, x1 = vn x := ⟨_, rfl⟩
      obtain ⟨x2, hx2⟩ : ∃ x2, x2 = vs x := ⟨_, rfl⟩
      have HXX : Hid (x0 = (x.k : Int) ∧ x1 = vn x ∧ x2 = vs x) := ⟨hx0, hx1, hx2⟩
      rw [← hx0, ← hx1, ← hx2] at HC
      clear hx0 hx1 hx2
      go_wp2_with fail
      refine (show Calls Tryz.prog 55 _ _ _ from HC.out).mono ?_
      rintro e w2 ⟨lv, rfl, g2⟩
      obtain ⟨al, cl, hlv⟩ := g2.out.1.form
      have W4 : VrAt (w2.alloc (.cells #[.int .i64 x0, .int .i64 x1, .string x2, lv] 100)) w.heap.size d (.slice ao i cap) (l.take i) := (HI.out.1.only g2.out.2 (fun _ _ h => h)).only ((Only.refl (fun _ => False) w2).alloc _) (fun _ _ h => h)
      have N4 : NvAt (w2.alloc (.cells #[.int .i64 x0, .int .i64 x1, .string x2, lv] 100)) w1.heap.size d x lv := g2.out.1.only ((Only.refl (fun _ => False) w2).alloc _) (fun _ _ h => h)
      have O4 : Only (fun _ => False) w (w2.alloc (.cells #[.int .i64 x0, .int .i64 x1, .string x2, lv] 100)) := (HI.out.2.trans g2.out.2 (fun _ _ g => g)).alloc _
      have hlt : ∀ k, (Value.slice ao i cap).ownBlock = some k → k < w1.heap.size := fun k hk => by
        obtain ⟨us, S', hr, _⟩ := HI.out.1
        exact (hr.lt k hk).2
      have hsz1 : w.heap.size ≤ w1.heap.size := HI.out.2.size
      have hsz2 : w1.heap.size ≤ w2.heap.size := g2.out.2.size
      obtain ⟨us, SS, hown, htr, hSS⟩ := W4
      rw [HX.out.2] at hown
      have HOW : Hid ((w2.alloc (.cells #[.int .i64 x0, .int .i64 x1, .string x2, lv] 100)).ownsRow w.heap.size 100 4 (.slice ao i cap) i us) := hown
      have HAL : Hid (_ ∧ _ ∧ NvAt (w2.alloc (.cells #[.int .i64 x0, .int .i64 x1, .string x2, lv] 100)) w1.heap.size d x lv ∧ Only (fun _ => False) w (w2.alloc (.cells #[.int .i64 x0, .int .i64 x1, .string x2, lv] 100)) ∧ w.heap.size ≤ w1.heap.size ∧ (∀ k, (Value.slice ao i cap).ownBlock = some k → k < w1.heap.size)) := ⟨htr, hSS, N4, O4, hsz1, hlt⟩
      subst hlv
      obtain ⟨i0', z0, hi', hz0, hz1, hz2, hz3⟩ := v_info
      obtain ⟨xl, hxl⟩ : ∃ xl, xl = x.l.length := ⟨_, rfl⟩
      rw [← hxl] at HOW HAL
      rw [← hxl]
      clear N4 O4 hown htr hSS hlt g2 HI HC hxl
      go_wp2_with (at_builtin; refine wpList_append_own_at _ rfl _ _ 69 rfl w.heap.size 100 i0' z0 4 56 Tryz.underlying69 hi' hz0 hz1 hz2 hz3 (by decide) _ i us rfl HOW.out ⟨w2.heap.size, 0, none⟩ 1 1 [.int .i64 x0, .int .i64 x1, .string x2, .slice al xl cl] rfl rfl ?c1 ?c2 ?c3 ?c4 ?c5 ?_)
      case c1 =>
        intro j u hj
        rcases j with _ | _ | _ | _ | j <;> simp at hj <;> subst hj <;> simp [Addr.add]
      case c2 =>
        intro u hu
        simp only [List.mem_cons, List.not_mem_nil, or_false] at hu
        rcases hu with rfl | rfl | rfl | rfl <;> rfl
      case c3 => have := HB.out; unfold maxLen; omega
      case c4 => have := HB.out; omega
      case c5 => simp; omega
      intro v' w4 hown' hgrow _ hat
      obtain ⟨a1, a2, a3, a4, a5, a6⟩ := HAL.out
      obtain ⟨e0, e1, e2⟩ := HXX.out
      have W5 : VrAt w4 w.heap.size d v' (l.take i ++ [x]) := VrAt.snoc hgrow (by rw [HX.out.2]; exact HOW.out) a1 a2 a3 a5 a6 (by rw [HX.out.2, ← e0, ← e1, ← e2]; exact hown') (by simpa using hat)
      rw [HX.out.1] at W5
      have og : Only (fun k => (Value.slice ao i cap).ownBlock = some k) (w2.alloc (.cells #[.int .i64 x0, .int .i64 x1, .string x2, .slice al xl cl] 100)) w4 := (Only.refl _ _).grown hgrow (fun k e _ => e)
      have O5 : Only (fun _ => False) w w4 := a4.trans og (fun k hk e => by have := (HOW.out.lt k e).1; omega)
      obtain ⟨ao', cap', hv'⟩ := W5.form
      have hlen : (l.take (i + 1)).length = i + 1 := by have : N = l.length := HNN.out; have := HB.out; simp; omega
      rw [hlen] at hv'
      subst hv'
      have HK5 : Hid (VrAt w4 w.heap.size d (.slice ao' (i + 1) cap') (l.take (i + 1)) ∧ Only (fun _ => False) w w4) := ⟨W5, O5⟩
      clear W5 O5 og HAL HOW hown' hgrow hat a1 a2 a3 a4 a5 a6 hi' hz0 hz1 hz2 hz3 hsz1 hsz2 e0 e1 e2 HXX hlen
      have hi4 : i ≤ 4096 := by have := HB.out; omega
      go_wp2
      go_roundw
      case rel => exact ⟨i + 1, ao', cap', rfl, by go_num, by omega, HK5⟩
      case measure => simp only [uOf]; have := HB.out; omega
    · obtain rfl : i = N := by omega
      have i1 : ¬ (i : Int) < (i : Int) := by omega
      have HK : Hid (VrAt w1 w.heap.size d (.slice ao i cap) l ∧ Only (fun _ => False) w w1) := by
        have := HI.out
        rw [hNl, List.take_length, ← hNl] at this
        exact this
      clear HI hNl hN4
      go_wp2
      go_ret
      exact ⟨ao, cap, rfl, HK⟩
theorem trees_any : ∀ (d d' : Nat), d' < d → TeC d' 80 false ∧ TeC d' 55 true
  | 0, d', h => by omega
  | d + 1, d', h => by
    have ih := trees_any d
    by_cases hd : d' < d
    · exact ih d' hd
    · obtain rfl : d' = d := by omega
      cases d' with
      | zero => exact ⟨fun v t w S h => h.elim, fun v t w S h => h.elim⟩
      | succ e => exact ⟨tree_of e (trees_of e (ih e (by omega)).1) (itrees_of e (ih e (by omega)).2), itree_of e (ih e (by omega)).1⟩
theorem itrees_any (d : Nat) : TsC d 36 true := itrees_of d (trees_any (d + 1) d (by omega)).2
end Go.Proofs.YtfecmpebnianpaaGreatDoor
namespace Go.Proofs.YtfecmpebnianpaaGreatDoor
open Go.RowKit
set_option linter.unusedSimpArgs false
set_option linter.unusedVariables false
theorem results_dd {fn : Func} {u : Tmp} (h : fn.results = #[.cell u 71]) (tmps : Array Value) (w : World) (B : Nat) {x y z r : Value} (h0 : w.cell? ⟨B, 0, none⟩ = some x) (h1 : w.cell? ⟨B, 1, none⟩ = some y) (h2 : w.cell? ⟨B, 2, none⟩ = some z) (h3 : w.cell? ⟨B, 3, none⟩ = some r) (ha : tmps.getD u undef = .pointer (some ⟨B, 0, none⟩)) :
    (results fn tmps).run Tryz.prog w = .ok (.agg #[x, y, z, r]) w := by
  have ha' : tmps[u]?.getD undef = .pointer (some ⟨B, 0, none⟩) := by simpa using ha
  simp [results, h, ha', asAddr, go_sem, loadVar, isAgg, Tryz.underlying71, h0, h1, h2, h3]
theorem VrAt.lower {w : World} {B C d : Nat} {v : Value} {l : List Tre} (h : VrAt w B d v l) (hC : C ≤ B) : VrAt w C d v l := by
  obtain ⟨us, SS, ho, ht, hS⟩ := h
  refine ⟨us, SS, ⟨ho.1, ?_⟩, ht, fun b hb => ⟨Nat.le_trans hC (hS b hb).1, (hS b hb).2⟩⟩
  rcases ho.2 with g | ⟨g, cc, cur, h1, h2, h3⟩
  · exact .inl g
  · exact .inr ⟨g, cc, cur, h1, by omega, h3⟩
set_option maxRecDepth 100000 in
set_option maxHeartbeats 4000000 in
theorem deftree_any (d : Nat) (nm : ByteArray) (x y : Int) (l : List Tre) (ao : Option Addr) (cap : Nat) (w : World) (S : Nat → Prop) (h : SqAt w S d true (.slice ao l.length cap) l) (hl : l.length ≤ 4096) (hw : ∀ t ∈ l, ∃ e, WfT e t) :
    Calls Tryz.prog 19 #[.agg #[.string nm, .int .i64 x, .int .i64 y, .slice ao l.length cap]] w fun e w' => ∃ ao' cap', e = .returned (.agg #[.string nm, .int .i64 x, .int .i64 y, .slice ao' l.length cap']) ∧ Hid (VrAt w' w.heap.size d (.slice ao' l.length cap') l ∧ Only (fun _ => False) w w') := by
  have HC : Hid (∀ w1, Only (fun _ => False) w w1 → Calls Tryz.prog 36 #[.slice ao l.length cap] w1 fun e w' => ∃ ao cap, e = .returned (.slice ao l.length cap) ∧ Hid (VrAt w' w1.heap.size d (.slice ao l.length cap) l ∧ Only (fun _ => False) w1 w')) := fun w1 o1 => itrees_any d _ _ _ S (h.step (fun _ g => g) (fun a u _ hc => o1.cell hc (fun g => g)) (Nat.le_refl _)) hl hw
  have O0 : Hid (Only (fun _ => False) w w) := Only.refl _ _
  clear h hl hw
  obtain ⟨L, hL⟩ : ∃ L, L = l.length := ⟨_, rfl⟩
  have HL : Hid (L = l.length) := hL
  rw [← hL] at HC
  rw [← hL]
  clear hL
  go_enter Tryz.func19, Tryz.ntmps19
  go_wp2_with fail
  obtain ⟨W, hW⟩ : ∃ W, W = (w.alloc (.cells #[.string nm, .int .i64 x, .int .i64 y, .slice ao L cap] 49)).alloc (.cells #[.string ⟨#[]⟩, .int .i64 0, .int .i64 0, .slice none 0 0] 71) := ⟨_, rfl⟩
  have OW : Hid (Only (fun _ => False) w W) := by show Only _ _ _; rw [hW]; exact (O0.out.alloc _).alloc _
  have hP : W.heap[w.heap.size]? = some (.cells #[.string nm, .int .i64 x, .int .i64 y, .slice ao L cap] 49) := by
    rw [hW]
    exact (((Only.refl (fun _ => False) _).alloc _).block w.heap.size (by simp) (fun h => h)).trans (alloc_at _ _ _ rfl)
  have hQ : W.heap[w.heap.size + 1]? = some (.cells #[.string ⟨#[]⟩, .int .i64 0, .int .i64 0, .slice none 0 0] 71) := by
    rw [hW]
    exact alloc_at _ _ _ (by simp)
  obtain ⟨B, hB⟩ : ∃ B, B = w.heap.size := ⟨_, rfl⟩
  have HB : Hid (B = w.heap.size) := hB
  rw [← hB] at hP hQ
  rw [← hW, ← hB]
  have HP : Hid (W.heap[B]? = some (.cells #[.string nm, .int .i64 x, .int .i64 y, .slice ao L cap] 49) ∧ W.heap[B + 1]? = some (.cells #[.string ⟨#[]⟩, .int .i64 0, .int .i64 0, .slice none 0 0] 71)) := ⟨hP, hQ⟩
  have p0 := blk_cells hP 0
  have p1 := blk_cells hP 1
  have p2 := blk_cells hP 2
  have p3 := blk_cells hP 3
  simp only [List.getElem?_toArray, List.getElem?_cons_zero, List.getElem?_cons_succ] at p0 p1 p2 p3
  clear hW hB hP hQ O0
  have HG : Hid (∀ w1, Only (fun _ => False) W.drew w1 → w1.heap[B]? = some (.cells #[.string nm, .int .i64 x, .int .i64 y, .slice ao L cap] 49) ∧ w1.heap[B + 1]? = some (.cells #[.string ⟨#[]⟩, .int .i64 0, .int .i64 0, .slice none 0 0] 71)) := by
    intro w1 o1
    exact ⟨(o1.block B (Array.getElem?_eq_some_iff.1 HP.out.1).1 (fun h => h)).trans HP.out.1, (o1.block (B + 1) (Array.getElem?_eq_some_iff.1 HP.out.2).1 (fun h => h)).trans HP.out.2⟩
  go_region_held3 (fun w' => w'.cell? ⟨B, 0, none⟩ = some (.string nm) ∧ w'.cell? ⟨B, 1, none⟩ = some (.int .i64 x) ∧ w'.cell? ⟨B, 2, none⟩ = some (.int .i64 y) ∧ w'.cell? ⟨B, 3, none⟩ = some (.slice ao L cap))
    (first | exact ⟨p0, p1, p2, p3⟩ | exact ⟨q0, q1, q2, q3⟩ | go_keep)
    (first | (go_at_call 36; refine (show Calls Tryz.prog 36 _ _ _ from HC.out _ (OW.out.drew)).mono ?_; rintro ex w1 ⟨ao', cap', rfl, g1⟩; obtain ⟨b1, b2⟩ := HG.out w1 g1.out.2; have q0 := blk_cells b1 0; have q1 := blk_cells b1 1; have q2 := blk_cells b1 2; have q3 := blk_cells b1 3; have c0 := blk_cells b2 0; have c1 := blk_cells b2 1; have c2 := blk_cells b2 2; have c3 := blk_cells b2 3; have z0 := blk_froz b2 0; have z1 := blk_froz b2 1; have z2 := blk_froz b2 2; have z3 := blk_froz b2 3; simp only [List.getElem?_toArray, List.getElem?_cons_zero, List.getElem?_cons_succ] at q0 q1 q2 q3 c0 c1 c2 c3))
  have hBe : B = w.heap.size := HB.out
  have hWs : B + 1 < W.heap.size := (Array.getElem?_eq_some_iff.1 HP.out.2).1
  have e1 : L = l.length := HL.out
  have HF : Hid (w1.heap[B + 1]? = some (.cells #[.string ⟨#[]⟩, .int .i64 0, .int .i64 0, .slice none 0 0] 71) ∧ VrAt w1 (B + 2) d (.slice ao' L cap') l ∧ Only (fun _ => False) w w1) := ⟨b2, g1.out.1.lower (show B + 2 ≤ W.heap.size by omega), OW.out.drew.trans g1.out.2 (fun _ _ g => g)⟩
  clear HC HG HP OW g1 b1 b2 q0 q1 q2 q3 c0 c1 c2 c3 z0 z1 z2 z3 p0 p1 p2 p3 hWs
  have HBe : Hid (B = w.heap.size ∧ L = l.length) := ⟨hBe, e1⟩
  clear hBe e1
  go_wp2
  obtain ⟨r0, r1, r2, r3⟩ := set4 HF.out.1 rfl (.string nm) (.int .i64 x) (.int .i64 y) (.slice ao' L cap')
  have OB := @only4 w1 (B + 1) (.string nm) (.int .i64 x) (.int .i64 y) (.slice ao' L cap')
  have hBe := HBe.out.1
  refine bodyPost_ret (results_dd rfl _ _ (B + 1) r0 r1 r2 r3 rfl) rfl ⟨ao', cap', rfl, (HF.out.2.1.only OB (fun b h e => by omega)).lower (by omega), HF.out.2.2.trans OB (fun b h e => by omega)⟩
end Go.Proofs.YtfecmpebnianpaaGreatDoor
namespace Go.Proofs.YtfecmpebnianpaaGreatDoor
open Go.RowKit
set_option linter.unusedSimpArgs false
set_option linter.unusedVariables false
/-- a form whose parts are lists of at most 4096 -/
def Wfm (fm : Fm) : Prop := fm.b.length ≤ 4096 ∧ (∀ x ∈ fm.b, ∃ e, WfT e x) ∧ (fm.d = false → ∃ e, WfT e fm.it)
/-- a slice of forms that can be read -/
def FrAt (w : World) (S : Nat → Prop) (d : Nat) (v : Value) (l : List Fm) : Prop :=
  ∃ ao cap, v = .slice ao l.length cap ∧ ∀ (j : Nat) (fm : Fm), l[j]? = some fm → ∃ g bv iv, ao = some ⟨g, 0, none⟩ ∧ (w.cell? ⟨g, j * 6, none⟩ = some (.bool fm.d) ∧ w.cell? ⟨g, j * 6 + 1, none⟩ = some (.string fm.nm) ∧ w.cell? ⟨g, j * 6 + 2, none⟩ = some (.int .i64 (fm.i : Int)) ∧ w.cell? ⟨g, j * 6 + 3, none⟩ = some (.int .i64 (fm.j : Int)) ∧ w.cell? ⟨g, j * 6 + 4, none⟩ = some bv ∧ w.cell? ⟨g, j * 6 + 5, none⟩ = some iv) ∧ FmAt w S d fm bv iv
theorem FsAt.read {w : World} {B d : Nat} {v : Value} {l : List Fm} (h : FsAt w B d v l) : ∃ S, FrAt w S d v l := by
  obtain ⟨us, S, ho, ht, hS⟩ := h
  refine ⟨S, ?_⟩
  rcases ho.2 with ⟨rfl, h2⟩ | ⟨g, cap, cur, hv, hB, hg, hn, hcm, hcs, htk⟩
  · have : l = [] := List.eq_nil_of_length_eq_zero h2
    subst this
    exact ⟨none, 0, rfl, fun j fm hj => by simp at hj⟩
  · refine ⟨some ⟨g, 0, none⟩, cap, hv, fun j fm hj => ?_⟩
    obtain ⟨bv, iv, ⟨h0, h1, h2, h3, h4, h5⟩, h6⟩ := ht j fm hj
    have hc : ∀ j u, us[j]? = some u → w.cell? ⟨g, j, none⟩ = some u := fun j u hu => by
      have := ho.cells (g := g) (by rw [hv]; rfl) j u hu
      rwa [addr_ad] at this
    exact ⟨g, bv, iv, rfl, ⟨hc _ _ h0, hc _ _ h1, hc _ _ h2, hc _ _ h3, hc _ _ h4, hc _ _ h5⟩, h6⟩
theorem FrAt.only {w w' : World} {S : Nat → Prop} {d : Nat} {v : Value} {l : List Fm} (h : FrAt w S d v l) (o : Only (fun _ => False) w w') : FrAt w' S d v l := by
  obtain ⟨ao, cap, hv, hl⟩ := h
  refine ⟨ao, cap, hv, fun j fm hj => ?_⟩
  obtain ⟨g, bv, iv, ha, ⟨h0, h1, h2, h3, h4, h5⟩, h6⟩ := hl j fm hj
  exact ⟨g, bv, iv, ha, ⟨o.cell h0 (fun g => g), o.cell h1 (fun g => g), o.cell h2 (fun g => g), o.cell h3 (fun g => g), o.cell h4 (fun g => g), o.cell h5 (fun g => g)⟩, h6.step (fun _ g => g) (fun a u _ hc => o.cell hc (fun g => g)) (Nat.le_refl _)⟩
def bdT (fm : Fm) : Tre := ⟨5, 0, ⟨#[]⟩, fm.b⟩
def fC (fm : Fm) (bl il : Value) : List Value := [.bool fm.d, .string fm.nm, .int .i64 (fm.i : Int), .int .i64 (fm.j : Int), bl, .int .i64 (fm.it.k : Int), .int .i64 (vn fm.it), .string (vs fm.it), il]
/-- a row of the document's forms that was made since block B -/
def VfAt (w : World) (B d : Nat) (v : Value) (l : List Fm) : Prop :=
  ∃ us S, w.ownsRow B 102 9 v l.length us ∧ (∀ (j : Nat) (fm : Fm), l[j]? = some fm → ∃ bl il, (∀ i u, (fC fm bl il)[i]? = some u → us[j * 9 + i]? = some u) ∧ VtAt w S d (bdT fm) bl ∧ VtAt w S d fm.it il) ∧ ∀ b, S b → B ≤ b ∧ b < w.heap.size ∧ v.ownBlock ≠ some b
theorem vf_nil (w : World) (B d : Nat) : VfAt w B d (.slice none 0 0) [] :=
  ⟨[], fun _ => False, ⟨rfl, .inl ⟨rfl, rfl⟩⟩, fun j x h => by simp at h, fun b h => h.elim⟩
theorem VfAt.form {w : World} {B d : Nat} {v : Value} {l : List Fm} (h : VfAt w B d v l) : ∃ ao cap, v = .slice ao l.length cap := by
  obtain ⟨us, S, ho, _⟩ := h
  rcases ho.2 with ⟨h1, h2⟩ | ⟨g, cap, cur, h1, _⟩
  · exact ⟨_, _, by rw [h1, h2]⟩
  · exact ⟨_, _, h1⟩
theorem VfAt.only {w w' : World} {B d : Nat} {v : Value} {l : List Fm} {bs : Nat → Prop} (h : VfAt w B d v l) (o : Only bs w w') (hb : ∀ b, B ≤ b → ¬ bs b) : VfAt w' B d v l := by
  obtain ⟨us, S, ho, ht, hS⟩ := h
  refine ⟨us, S, o.owns ho (fun k hk => hb k (ho.lt k hk).1), fun j x hx => ?_, fun b hbS => ?_⟩
  · obtain ⟨bl, il, hu, h2, h3⟩ := ht j x hx
    exact ⟨bl, il, hu, h2.step (fun _ g => g) (fun a u hs hc => o.cell hc (hb _ (hS _ hs).1)) (Nat.le_refl _), h3.step (fun _ g => g) (fun a u hs hc => o.cell hc (hb _ (hS _ hs).1)) (Nat.le_refl _)⟩
  · obtain ⟨h1, h2, h3⟩ := hS b hbS
    exact ⟨h1, Nat.lt_of_lt_of_le h2 o.size, h3⟩
theorem VfAt.snoc {w w' : World} {B C d : Nat} {v v' : Value} {l : List Fm} {fm : Fm} {bl il : Value} {us : List Value} {S : Nat → Prop} (hg : w.grownBy w' v.ownBlock) (ho : w.ownsRow B 102 9 v l.length us) (ht : ∀ (j : Nat) (fm : Fm), l[j]? = some fm → ∃ bl il, (∀ i u, (fC fm bl il)[i]? = some u → us[j * 9 + i]? = some u) ∧ VtAt w S d (bdT fm) bl ∧ VtAt w S d fm.it il) (hS : ∀ b, S b → B ≤ b ∧ b < w.heap.size ∧ v.ownBlock ≠ some b)
    (hn : NvAt w C d (bdT fm) bl) (hn2 : NvAt w C d fm.it il) (hC : B ≤ C) (hv : ∀ k, v.ownBlock = some k → k < C) (ho' : w'.ownsRow B 102 9 v' (l.length + 1) (us ++ fC fm bl il)) (hat : v'.ownBlock = v.ownBlock ∨ v'.ownBlock = some w.heap.size) : VfAt w' B d v' (l ++ [fm]) := by
  obtain ⟨S1, t1, s1⟩ := hn
  obtain ⟨S2, t2, s2⟩ := hn2
  have oo : Only (fun k => v.ownBlock = some k) w w' := (Only.refl _ w).grown hg (fun k e _ => e)
  have a1 : ∀ b, S b → ¬ v.ownBlock = some b := fun b h => (hS b h).2.2
  have a2 : ∀ b, S1 b → ¬ v.ownBlock = some b := fun b h e => by have := hv b e; have := (s1 b h).1; omega
  have a3 : ∀ b, S2 b → ¬ v.ownBlock = some b := fun b h e => by have := hv b e; have := (s2 b h).1; omega
  have hl : us.length = l.length * 9 := ho.1
  refine ⟨_, fun b => S b ∨ S1 b ∨ S2 b, by simpa using ho', fun j x hx => ?_, fun b hb => ?_⟩
  · by_cases hj : j < l.length
    · rw [List.getElem?_append_left hj] at hx
      obtain ⟨bl', il', h0, h1, h2⟩ := ht j x hx
      refine ⟨bl', il', fun i u hu => ?_, h1.step (fun _ g => .inl g) (fun a y hs hc => oo.cell hc (a1 _ hs)) (Nat.le_refl _), h2.step (fun _ g => .inl g) (fun a y hs hc => oo.cell hc (a1 _ hs)) (Nat.le_refl _)⟩
      have := h0 i u hu
      rw [List.getElem?_append_left (List.getElem?_eq_some_iff.1 this).1]
      exact this
    · have hj2 : j < (l ++ [fm]).length := (List.getElem?_eq_some_iff.1 hx).1
      have hj3 : j = l.length := by simp at hj2; omega
      subst hj3
      simp at hx
      subst hx
      refine ⟨bl, il, fun i u hu => ?_, t1.step (fun _ g => .inr (.inl g)) (fun a y hs hc => oo.cell hc (a2 _ hs)) (Nat.le_refl _), t2.step (fun _ g => .inr (.inr g)) (fun a y hs hc => oo.cell hc (a3 _ hs)) (Nat.le_refl _)⟩
      rw [List.getElem?_append_right (by omega), show l.length * 9 + i - us.length = i by omega]
      exact hu
  · have h1 : B ≤ b ∧ b < w.heap.size ∧ v.ownBlock ≠ some b := by
      rcases hb with h | h | h
      · exact hS b h
      · exact ⟨Nat.le_trans hC (s1 b h).1, (s1 b h).2, a2 b h⟩
      · exact ⟨Nat.le_trans hC (s2 b h).1, (s2 b h).2, a3 b h⟩
    refine ⟨h1.1, Nat.lt_of_lt_of_le h1.2.1 oo.size, ?_⟩
    rcases hat with e | e <;> rw [e]
    · exact h1.2.2
    · intro e2
      injection e2 with e2
      have := h1.2.1
      omega
end Go.Proofs.YtfecmpebnianpaaGreatDoor
namespace Go.Proofs.YtfecmpebnianpaaGreatDoor
open Go.RowKit
set_option linter.unusedSimpArgs false
set_option linter.unusedVariables false
/-- a reader gives up for a reason -/
theorem prs_err (n : Int) : ∀ f m q o z a e, prs n f m q o z = .error (a, e) → z ≤ 1024 → 3 * q.length + 1 + min m 2 ≤ f → e = 9 ∨ e = 11 := by
  intro f
  induction f with
  | zero => intro m q o z a e h _ hf; omega
  | succ f ih =>
    intro m q o z a e h hz hf
    match m with
    | 0 =>
      cases q with
      | nil => simp only [prs, Except.error.injEq, Prod.mk.injEq] at h; omega
      | cons t q =>
        simp only [prs] at h
        simp only [List.length_cons] at hf
        repeat' split at h
        all_goals first
          | (simp only [Except.error.injEq, Prod.mk.injEq] at h; omega)
          | (simp at h; done)
          | skip
        all_goals
          rename_i hp
          simp only [Except.error.injEq] at h
          subst h
          exact ih _ _ _ _ _ _ hp (by omega) (by omega)
    | 1 =>
      cases q with
      | nil => simp only [prs, Except.error.injEq, Prod.mk.injEq] at h; omega
      | cons t q =>
        simp only [prs] at h
        repeat' split at h
        · simp only [Except.error.injEq, Prod.mk.injEq] at h; omega
        · simp at h
        · exact ih _ _ _ _ _ _ h hz (by omega)
    | m + 2 =>
      cases q with
      | nil => simp only [prs, Except.error.injEq, Prod.mk.injEq] at h; omega
      | cons t q =>
        simp only [prs] at h
        split at h
        · simp at h
        · split at h
          · rename_i e' hp
            simp only [Except.error.injEq] at h
            subst h
            exact ih _ _ _ _ _ _ hp hz (by omega)
          · rename_i l1 r1 z1 hp
            have h1 := prs_ok n _ _ _ _ _ _ _ _ hp hz
            split at h
            · rename_i e' hp2
              simp only [Except.error.injEq] at h
              subst h
              exact ih _ _ _ _ _ _ hp2 (by omega) (by omega)
            · simp at h
theorem sdR_err (n : Int) (w : ByteArray) : ∀ (k : Nat) (q : List Tok) (a e : Int), sdR n w k q = .error (a, e) → e = 9 ∨ e = 11
  | k, [], a, e, h => by simp only [sdR, Except.error.injEq, Prod.mk.injEq] at h; omega
  | k, t :: q, a, e, h => by
    simp only [sdR] at h
    repeat' split at h
    · simp at h
    · simp only [Except.error.injEq, Prod.mk.injEq] at h; omega
    · exact sdR_err n w (k + 1) q a e h
    · simp only [Except.error.injEq, Prod.mk.injEq] at h; omega
end Go.Proofs.YtfecmpebnianpaaGreatDoor
namespace Go.Proofs.YtfecmpebnianpaaGreatDoor
open Go.RowKit
set_option linter.unusedSimpArgs false
set_option linter.unusedVariables false
/-- a form whose lists are small -/
def Wff (fm : Fm) : Prop := fm.b.length ≤ 4096 ∧ (∃ e, WfT e (bdT fm)) ∧ ∃ e, WfT e fm.it
theorem wf_no : WfT 1 noT := ⟨Nat.zero_le _, fun x hx => by simp [noT] at hx⟩
theorem Wff.wfm {fm : Fm} (h : Wff fm) : Wfm fm := by
  obtain ⟨h1, ⟨e, h2⟩, h3⟩ := h
  refine ⟨h1, fun x hx => ?_, fun _ => h3⟩
  cases e with
  | zero => exact h2.elim
  | succ e => exact ⟨e, h2.2 x hx⟩
theorem dfR_wf {n : Int} {f : Nat} {q : List Tok} {o z : Int} {fm : Fm} {r : List Tok} {z' : Int} (hz : z ≤ 1024) (hq : q.length ≤ 4096) (h : dfR n f q o z = .ok (fm, r, z')) : Wff fm := by
  cases q with
  | nil => simp [dfR] at h
  | cons t0 q1 =>
    simp only [dfR] at h
    split at h
    · simp at h
    · rename_i hf
      cases q1 with
      | nil => simp [dfN] at h
      | cons t1 q2 =>
        simp only [dfN] at h
        split at h
        · simp at h
        · cases q2 with
          | nil => simp [dfQ] at h
          | cons t2 q3 =>
            simp only [dfQ] at h
            split at h
            · simp at h
            · unfold dfA at h
              split at h
              · simp at h
              · rename_i i q4 h4
                unfold dfB at h
                split at h
                · simp at h
                · rename_i j q5 h5
                  unfold dfC at h
                  split at h
                  · simp at h
                  · rename_i l q6 z6 h6
                    simp only [Except.ok.injEq, Prod.mk.injEq] at h
                    obtain ⟨rfl, _, _⟩ := h
                    have a4 := (sdR_len n _ _ _ _ _ h4).1
                    have a5 := (sdR_len n _ _ _ _ _ h5).1
                    have a6 := prs_ok n _ _ _ _ _ _ _ _ h6 (by omega)
                    simp only [List.length_cons] at hq
                    have a7 := prs_wf n _ _ _ _ _ _ _ _ h6 (by omega) (by omega)
                    exact ⟨by dsimp only; omega, ⟨f + 1, by dsimp only [bdT]; omega, a7⟩, ⟨1, wf_no⟩⟩
theorem fmR_wf {n : Int} {f : Nat} {q : List Tok} {o z : Int} {fm : Fm} {r : List Tok} {z' : Int} (hz : z ≤ 1024) (hq : q.length ≤ 4096) (h : fmR n f q o z = .ok (fm, r, z')) : Wff fm := by
  cases q with
  | nil => simp [fmR] at h
  | cons t q =>
    simp only [fmR] at h
    split at h
    · exact dfR_wf hz hq h
    · split at h
      · simp at h
      · rename_i l q' z'' hp
        simp only [Except.ok.injEq, Prod.mk.injEq] at h
        obtain ⟨rfl, _, _⟩ := h
        have a6 := (prs_ok n _ _ _ _ _ _ _ _ hp hz).2.2.2.1 (by omega)
        have a7 := prs_wf n _ _ _ _ _ _ _ _ hp hz hq
        match l, a6 with
        | [x], _ => exact ⟨Nat.zero_le _, ⟨1, Nat.zero_le _, fun x hx => by simp [bdT] at hx⟩, ⟨f, a7 x (by simp)⟩⟩
theorem alR_wf (n : Int) (F : Nat) : ∀ (g : Nat) (q : List Tok) (l : List Fm), q.length ≤ 4096 → alR n F g q = .ok l → l.length ≤ q.length ∧ ∀ fm ∈ l, Wff fm
  | 0, _, _, _, h => by simp [alR] at h
  | g + 1, [], l, _, h => by
    simp only [alR, Except.ok.injEq] at h
    subst h
    exact ⟨Nat.le_refl _, fun fm hf => by simp at hf⟩
  | g + 1, t :: r, l, hl, h => by
    simp only [alR] at h
    cases hf : fmR n F (t :: r) 0 0 with
    | error e => rw [hf] at h; simp at h
    | ok p =>
      obtain ⟨fm, q, z⟩ := p
      rw [hf] at h
      dsimp only at h
      cases ha : alR n F g q with
      | error e => rw [ha] at h; simp at h
      | ok l1 =>
        rw [ha] at h
        simp only [Except.ok.injEq] at h
        subst h
        have h1 := fmR_len (by omega) hf
        have h2 := fmR_wf (by omega) hl hf
        obtain ⟨h3, h4⟩ := alR_wf n F g q l1 (by omega) ha
        refine ⟨by simp only [List.length_cons] at *; omega, fun x hx => ?_⟩
        rcases List.mem_cons.1 hx with rfl | hx
        · exact h2
        · exact h4 x hx
theorem dfR_err {n : Int} {f : Nat} {q : List Tok} {o z : Int} {a e : Int} (hz : z ≤ 1024) (hf : 3 * q.length + 3 ≤ f) (h : dfR n f q o z = .error (a, e)) : e = 9 ∨ e = 11 := by
  cases q with
  | nil => simp only [dfR, Except.error.injEq, Prod.mk.injEq] at h; omega
  | cons t0 q1 =>
    simp only [dfR] at h
    simp only [List.length_cons] at hf
    split at h
    · simp only [Except.error.injEq, Prod.mk.injEq] at h; omega
    · cases q1 with
      | nil => simp only [dfN, Except.error.injEq, Prod.mk.injEq] at h; omega
      | cons t1 q2 =>
        simp only [dfN] at h
        split at h
        · simp only [Except.error.injEq, Prod.mk.injEq] at h; omega
        · cases q2 with
          | nil => simp only [dfQ, Except.error.injEq, Prod.mk.injEq] at h; omega
          | cons t2 q3 =>
            simp only [dfQ] at h
            simp only [List.length_cons] at hf
            split at h
            · simp only [Except.error.injEq, Prod.mk.injEq] at h; omega
            · unfold dfA at h
              split at h
              · rename_i e' h4
                simp only [Except.error.injEq] at h
                subst h
                exact sdR_err n _ _ _ _ _ h4
              · rename_i i q4 h4
                unfold dfB at h
                split at h
                · rename_i e' h5
                  simp only [Except.error.injEq] at h
                  subst h
                  exact sdR_err n _ _ _ _ _ h5
                · rename_i j q5 h5
                  unfold dfC at h
                  have a4 := (sdR_len n _ _ _ _ _ h4).1
                  have a5 := (sdR_len n _ _ _ _ _ h5).1
                  split at h
                  · rename_i e' h6
                    simp only [Except.error.injEq] at h
                    subst h
                    exact prs_err n _ _ _ _ _ _ _ h6 (by omega) (by omega)
                  · simp at h
theorem fmR_err {n : Int} {f : Nat} {q : List Tok} {o z : Int} {a e : Int} (hz : z ≤ 1024) (hf : 3 * q.length + 3 ≤ f) (h : fmR n f q o z = .error (a, e)) : e = 9 ∨ e = 11 := by
  cases q with
  | nil => simp only [fmR, Except.error.injEq, Prod.mk.injEq] at h; omega
  | cons t q =>
    simp only [fmR] at h
    split at h
    · exact dfR_err hz hf h
    · split at h
      · rename_i e' hp
        simp only [Except.error.injEq] at h
        subst h
        exact prs_err n _ _ _ _ _ _ _ hp hz (by omega)
      · simp at h
theorem alR_err (n : Int) (F : Nat) : ∀ (g : Nat) (q : List Tok) (a e : Int), q.length < g → 3 * q.length + 3 ≤ F → alR n F g q = .error (a, e) → e = 9 ∨ e = 11
  | 0, _, _, _, h, _, _ => by omega
  | g + 1, [], a, e, _, _, h => by simp [alR] at h
  | g + 1, t :: r, a, e, hl, hF, h => by
    simp only [alR] at h
    cases hf : fmR n F (t :: r) 0 0 with
    | error p =>
      rw [hf] at h
      simp only [Except.error.injEq] at h
      subst h
      exact fmR_err (by omega) hF hf
    | ok p =>
      obtain ⟨fm, q, z⟩ := p
      have h1 := fmR_len (by omega) hf
      rw [hf] at h
      dsimp only at h
      simp only [List.length_cons] at hl hF h1
      cases ha : alR n F g q with
      | error p =>
        rw [ha] at h
        simp only [Except.error.injEq] at h
        subst h
        exact alR_err n F g q a e (by omega) (by omega) ha
      | ok l1 => rw [ha] at h; simp at h
/-- a source that is read -/
theorem parR_ok {s : ByteArray} (h : (parR s).2.2 = 0) : (tokR s).2.2 = 0 ∧ alR (s.size : Int) 12400 ((tokR s).1.length + 1) (tokR s).1 = .ok (parR s).1 ∧ (parR s).2.1 = 0 := by
  unfold parR at h ⊢
  by_cases h0 : (tokR s).2.2 = 0
  · rw [if_pos h0] at h ⊢
    cases ha : alR (s.size : Int) 12400 ((tokR s).1.length + 1) (tokR s).1 with
    | error p =>
      obtain ⟨a, e⟩ := p
      rw [ha] at h
      have := alR_err _ _ _ _ a e (by omega) (by have := tokR_len s; omega) ha
      dsimp only at h
      omega
    | ok l => exact ⟨h0, rfl, rfl⟩
  · rw [if_neg h0] at h
    exact absurd h h0
theorem parR_bad {s : ByteArray} (h : ¬ (parR s).2.2 = 0) : (parR s).1 = [] := by
  unfold parR at h ⊢
  split
  · rename_i h0
    rw [if_pos h0] at h
    cases ha : alR (s.size : Int) 12400 ((tokR s).1.length + 1) (tokR s).1 with
    | error p => rfl
    | ok l => rw [ha] at h; exact absurd rfl h
  · rfl
theorem parR_wf {s : ByteArray} : (parR s).1.length ≤ 4096 ∧ ∀ fm ∈ (parR s).1, Wff fm := by
  by_cases h : (parR s).2.2 = 0
  · obtain ⟨h0, h1, _⟩ := parR_ok h
    have hl := tokR_len s
    obtain ⟨h2, h3⟩ := alR_wf _ _ _ _ _ hl h1
    exact ⟨by omega, h3⟩
  · rw [parR_bad h]
    exact ⟨Nat.zero_le _, fun fm hf => by simp at hf⟩
end Go.Proofs.YtfecmpebnianpaaGreatDoor
namespace Go.Proofs
open Go.Shelf
def Tryz.laysCut_ren : Go.Shelf.Ren := ⟨fun | 145 => 29 | 220 => 41 | 219 => 59 | 217 => 86 | 225 => 87 | 224 => 88 | 267 => 89 | 266 => 114 | 314 => 115 | n => n, fun | 9 => 9 | 4 => 4 | 59 => 87 | 3 => 3 | 5 => 5 | 46 => 169 | 146 => 204 | 51 => 203 | n => n, fun | 1 => 0 | n => n⟩
theorem Tryz.laysCut : Go.Proofs.LaysM.n145 Tryz.prog Tryz.laysCut_ren := {
  mixed := by kernel_rfl
  f145 := Tryz.func29.trans (congrArg some (by kernel_rfl))
  f217 := Tryz.func86.trans (congrArg some (by kernel_rfl))
  f219 := Tryz.func59.trans (congrArg some (by kernel_rfl))
  f220 := Tryz.func41.trans (congrArg some (by kernel_rfl))
  f224 := Tryz.func88.trans (congrArg some (by kernel_rfl))
  f225 := Tryz.func87.trans (congrArg some (by kernel_rfl))
  f266 := Tryz.func114.trans (congrArg some (by kernel_rfl))
  f267 := Tryz.func89.trans (congrArg some (by kernel_rfl))
  f314 := Tryz.func115.trans (congrArg some (by kernel_rfl))
  t3 := Tryz.underlying3
  a3 := Tryz.isAgg3
  z3 := Tryz.sizeOf3
  v3 := Tryz.zeroValue3
  t4 := Tryz.underlying4
  a4 := Tryz.isAgg4
  z4 := Tryz.sizeOf4
  v4 := Tryz.zeroValue4
  t5 := Tryz.underlying5
  a5 := Tryz.isAgg5
  z5 := Tryz.sizeOf5
  v5 := Tryz.zeroValue5
  t9 := Tryz.underlying9
  a9 := Tryz.isAgg9
  z9 := Tryz.sizeOf9
  v9 := Tryz.zeroValue9
  t46 := Tryz.underlying169
  a46 := Tryz.isAgg169
  z46 := Tryz.sizeOf169
  v46 := Tryz.zeroValue169
  t51 := Tryz.underlying203
  a51 := Tryz.isAgg203
  z51 := Tryz.sizeOf203
  v51 := Tryz.zeroValue203
  t59 := Tryz.underlying87
  a59 := Tryz.isAgg87
  z59 := Tryz.sizeOf87
  v59 := Tryz.zeroValue87
  t146 := Tryz.underlying204
  a146 := Tryz.isAgg204
  z146 := Tryz.sizeOf204
  v146 := Tryz.zeroValue204
  g1 := by kernel_rfl
  i3 := by kernel_rfl
  i4 := by kernel_rfl
  i5 := by kernel_rfl
  i9 := by kernel_rfl
  i46 := by kernel_rfl
  i51 := by kernel_rfl
  i59 := by kernel_rfl
  i146 := by kernel_rfl
  m1 := by kernel_rfl
  s1_3 := fun w h => Go.Proofs.cell_of_shapedOpen_int (zero := #[.int .i64 0]) (t := 3) h (of_decide_eq_true (by kernel_rfl)) (by kernel_rfl) rfl (by kernel_rfl) (by kernel_rfl) Tryz.underlying3 }
def Tryz.laysSplit_ren : Go.Shelf.Ren := ⟨fun | 146 => 43 | 221 => 61 | 268 => 91 | 138 => 92 | 143 => 93 | 195 => 116 | 197 => 117 | 218 => 118 | 219 => 59 | 260 => 142 | 217 => 86 | 225 => 87 | 224 => 88 | 267 => 89 | 266 => 114 | 314 => 115 | n => n, fun | 9 => 9 | 31 => 39 | 3 => 3 | 4 => 4 | 0 => 0 | 105 => 206 | 21 => 21 | 5 => 5 | 46 => 169 | 119 => 237 | 139 => 240 | 138 => 239 | 146 => 204 | 51 => 203 | n => n, fun | 1 => 0 | 3 => 2 | 4 => 3 | n => n⟩
theorem Tryz.laysSplit : Go.Proofs.LaysM.n146 Tryz.prog Tryz.laysSplit_ren := {
  mixed := by kernel_rfl
  f138 := Tryz.func92.trans (congrArg some (by kernel_rfl))
  f143 := Tryz.func93.trans (congrArg some (by kernel_rfl))
  f146 := Tryz.func43.trans (congrArg some (by kernel_rfl))
  f195 := Tryz.func116.trans (congrArg some (by kernel_rfl))
  f197 := Tryz.func117.trans (congrArg some (by kernel_rfl))
  f217 := Tryz.func86.trans (congrArg some (by kernel_rfl))
  f218 := Tryz.func118.trans (congrArg some (by kernel_rfl))
  f219 := Tryz.func59.trans (congrArg some (by kernel_rfl))
  f221 := Tryz.func61.trans (congrArg some (by kernel_rfl))
  f224 := Tryz.func88.trans (congrArg some (by kernel_rfl))
  f225 := Tryz.func87.trans (congrArg some (by kernel_rfl))
  f260 := Tryz.func142.trans (congrArg some (by kernel_rfl))
  f266 := Tryz.func114.trans (congrArg some (by kernel_rfl))
  f267 := Tryz.func89.trans (congrArg some (by kernel_rfl))
  f268 := Tryz.func91.trans (congrArg some (by kernel_rfl))
  f314 := Tryz.func115.trans (congrArg some (by kernel_rfl))
  t0 := Tryz.underlying0
  a0 := Tryz.isAgg0
  z0 := Tryz.sizeOf0
  v0 := Tryz.zeroValue0
  t3 := Tryz.underlying3
  a3 := Tryz.isAgg3
  z3 := Tryz.sizeOf3
  v3 := Tryz.zeroValue3
  t4 := Tryz.underlying4
  a4 := Tryz.isAgg4
  z4 := Tryz.sizeOf4
  v4 := Tryz.zeroValue4
  t5 := Tryz.underlying5
  a5 := Tryz.isAgg5
  z5 := Tryz.sizeOf5
  v5 := Tryz.zeroValue5
  t9 := Tryz.underlying9
  a9 := Tryz.isAgg9
  z9 := Tryz.sizeOf9
  v9 := Tryz.zeroValue9
  t21 := Tryz.underlying21
  a21 := Tryz.isAgg21
  z21 := Tryz.sizeOf21
  v21 := Tryz.zeroValue21
  t31 := Tryz.underlying39
  a31 := Tryz.isAgg39
  z31 := Tryz.sizeOf39
  v31 := Tryz.zeroValue39
  t46 := Tryz.underlying169
  a46 := Tryz.isAgg169
  z46 := Tryz.sizeOf169
  v46 := Tryz.zeroValue169
  t51 := Tryz.underlying203
  a51 := Tryz.isAgg203
  z51 := Tryz.sizeOf203
  v51 := Tryz.zeroValue203
  t105 := Tryz.underlying206
  a105 := Tryz.isAgg206
  z105 := Tryz.sizeOf206
  v105 := Tryz.zeroValue206
  t119 := Tryz.underlying237
  a119 := Tryz.isAgg237
  z119 := Tryz.sizeOf237
  t138 := Tryz.underlying239
  a138 := Tryz.isAgg239
  z138 := Tryz.sizeOf239
  v138 := Tryz.zeroValue239
  t139 := Tryz.underlying240
  a139 := Tryz.isAgg240
  z139 := Tryz.sizeOf240
  v139 := Tryz.zeroValue240
  t146 := Tryz.underlying204
  a146 := Tryz.isAgg204
  z146 := Tryz.sizeOf204
  v146 := Tryz.zeroValue204
  g1 := by kernel_rfl
  g3 := by kernel_rfl
  g4 := by kernel_rfl
  i0 := by kernel_rfl
  i3 := by kernel_rfl
  i4 := by kernel_rfl
  i5 := by kernel_rfl
  i9 := by kernel_rfl
  i21 := by kernel_rfl
  i31 := by kernel_rfl
  i46 := by kernel_rfl
  i51 := by kernel_rfl
  i105 := by kernel_rfl
  i138 := by kernel_rfl
  i139 := by kernel_rfl
  i146 := by kernel_rfl
  m1 := by kernel_rfl
  s1_3 := fun w h => Go.Proofs.cell_of_shapedOpen_int (zero := #[.int .i64 0]) (t := 3) h (of_decide_eq_true (by kernel_rfl)) (by kernel_rfl) rfl (by kernel_rfl) (by kernel_rfl) Tryz.underlying3
  m3 := by kernel_rfl
  m4 := by kernel_rfl }
end Go.Proofs
namespace Go.Proofs.YtfecmpebnianpaaGreatDoor
open Go.RowKit
set_option linter.unusedSimpArgs false
set_option linter.unusedVariables false
/-- the package's variable on long texts is some number -/
def Mxl (w : World) : Prop := ∃ m, w.cell? ⟨0, 0, none⟩ = some (.int .i64 m)
theorem Mxl.frame {w w' : World} (h : Mxl w) (o : Only (fun _ => False) w w') : Mxl w' := by
  obtain ⟨m, hm⟩ := h
  exact ⟨m, o.cell hm (fun g => g)⟩
theorem only_drewN (w : World) (n : Nat) : Only (fun _ => False) w (w.drewN n) := by
  have o : Only (fun _ => False) w w := Only.refl _ w
  exact ⟨o.os, o.tape, o.output, o.size, o.block⟩
theorem cut_any (s sep : ByteArray) (w : World) (hs : s.size < 4294967281) (h : Mxl w) :
    Calls Tryz.prog 29 #[.string s, .string sep] w fun e w' => e = .returned (.tuple #[.string ⟨(Lib.cut s.data.toList sep.data.toList).1.toArray⟩, .string ⟨(Lib.cut s.data.toList sep.data.toList).2.1.toArray⟩, .bool (Lib.cut s.data.toList sep.data.toList).2.2]) ∧ Only (fun _ => False) w w' := by
  obtain ⟨m, hm⟩ := h
  exact (Any.strings_Cut { Tryz.laysCut with } s sep m w hs hm).mono fun e w' g => by
    obtain ⟨he, n, hw⟩ := g
    exact ⟨he, by rw [hw]; exact only_drewN w n⟩
/-- the pieces of a text between blanks -/
def pcs (s : ByteArray) : List ByteArray := Lib.splitB ⟨#[32]⟩ 0 (Lib.countB s ⟨#[32]⟩) s
theorem pcs_len (s : ByteArray) : (pcs s).length = Lib.countB s ⟨#[32]⟩ + 1 := Lib.splitB_all ⟨#[32]⟩ (by decide) 0 _ s rfl
theorem split_any (s : ByteArray) (w : World) (hs : s.size < 4294967281) (h : Mxl w) :
    Calls Tryz.prog 43 #[.string s, .string ⟨#[32]⟩] w fun e w' => e = .returned (.slice (some ⟨w.heap.size, 0, none⟩) (pcs s).length (pcs s).length) ∧ w' = w.alloc (.cells ((pcs s).map Value.string).toArray 9) := by
  obtain ⟨m, hm⟩ := h
  have := Any.strings_Split { Tryz.laysSplit with } Tryz.laysSplit.i9 s ⟨#[32]⟩ m w hs hm (by decide)
  rw [← pcs_len s] at this
  exact this
theorem cut_nil : Lib.cut [] [10] = ([], [], false) := rfl
theorem cut_hit (r : List UInt8) : Lib.cut (10 :: r) [10] = ([], r, true) := by
  simp [Lib.cut, Lib.index, List.isPrefixOf]
theorem cut_next (c : UInt8) (r : List UInt8) (h : c ≠ 10) : Lib.cut (c :: r) [10] = if (Lib.cut r [10]).2.2 then (c :: (Lib.cut r [10]).1, (Lib.cut r [10]).2.1, true) else (c :: r, [], false) := by
  have h1 : ((10 : UInt8) == c) = false := by simpa using Ne.symm h
  have hg := Lib.index_ge r [10]
  have e : Lib.index (c :: r) [10] = if Lib.index r [10] == -1 then -1 else Lib.index r [10] + 1 := by
    show (if List.isPrefixOf [10] (c :: r) then (0 : Int) else _) = _
    rw [if_neg (by simp [List.isPrefixOf, h1])]
  unfold Lib.cut
  rw [e]
  by_cases h2 : Lib.index r [10] = -1
  · rw [h2]
    simp
  · obtain ⟨i, hi⟩ : ∃ i : Nat, Lib.index r [10] = i := ⟨(Lib.index r [10]).toNat, by omega⟩
    rw [hi]
    have h3 : ((i : Int) == -1) = false := by rw [beq_eq_false_iff_ne]; omega
    rw [h3]
    have h4 : (0 : Int) ≤ (i : Int) + 1 := by omega
    have h5 : (0 : Int) ≤ (i : Int) := by omega
    have h6 : ((i : Int) + 1).toNat = i + 1 := by omega
    have h7 : i + 1 + 1 = (i + 1) + 1 := rfl
    simp [h4, h5, h6]
/-- the lines of a text that are ended, each with its number, but for the empty ones; the number of what stands behind, and is that nothing? (a: what was read of the line) -/
def linS : List UInt8 → List UInt8 → Nat → List (Nat × List UInt8) × Nat × Bool
  | [], a, n => ([], n + 1, decide (a = []))
  | c :: r, a, n => if c = 10 then (if a = [] then linS r [] (n + 1) else ((n + 1, a) :: (linS r [] (n + 1)).1, (linS r [] (n + 1)).2)) else linS r (a ++ [c]) n
theorem linS_cut : ∀ (r a : List UInt8) (n : Nat), linS r a n = if (Lib.cut r [10]).2.2 then (if a ++ (Lib.cut r [10]).1 = [] then linS (Lib.cut r [10]).2.1 [] (n + 1) else ((n + 1, a ++ (Lib.cut r [10]).1) :: (linS (Lib.cut r [10]).2.1 [] (n + 1)).1, (linS (Lib.cut r [10]).2.1 [] (n + 1)).2)) else ([], n + 1, decide (a ++ r = []))
  | [], a, n => by simp [linS, cut_nil]
  | c :: r, a, n => by
    by_cases h : c = 10
    · subst h
      simp [linS, cut_hit]
    · rw [cut_next c r h]
      simp only [linS, if_neg h]
      rw [linS_cut r (a ++ [c]) n]
      by_cases h2 : (Lib.cut r [10]).2.2 = true
      · simp [h2]
      · simp [h2]
theorem cut_len : ∀ (r : List UInt8), (Lib.cut r [10]).2.2 = true → (Lib.cut r [10]).1.length + (Lib.cut r [10]).2.1.length + 1 = r.length
  | [], h => by simp [cut_nil] at h
  | c :: r, h => by
    by_cases h1 : c = 10
    · subst h1; simp [cut_hit]
    · rw [cut_next c r h1] at h ⊢
      by_cases h2 : (Lib.cut r [10]).2.2 = true
      · have := cut_len r h2
        rw [if_pos h2]
        simp only [List.length_cons]
        omega
      · rw [if_neg h2] at h
        cases h
theorem cut_miss : ∀ (r : List UInt8), (Lib.cut r [10]).2.2 = false → Lib.cut r [10] = (r, [], false)
  | [], _ => rfl
  | c :: r, h => by
    by_cases h1 : c = 10
    · subst h1; simp [cut_hit] at h
    · rw [cut_next c r h1] at h ⊢
      by_cases h2 : (Lib.cut r [10]).2.2 = true
      · rw [if_pos h2] at h; cases h
      · rw [if_neg h2]
/-- bytes as a text -/
def bt (t : List UInt8) : ByteArray := ⟨t.toArray⟩
theorem bt_size (t : List UInt8) : (bt t).size = t.length := by simp [bt, ByteArray.size]
theorem bt_list (t : List UInt8) : (bt t).data.toList = t := by simp [bt]
theorem bt_self (s : ByteArray) : bt s.data.toList = s := by simp [bt]
/-- the names behind a word -/
def nmO (T p : ByteArray) : Option (List ByteArray) := if preB T p then (if (pcs (T.extract p.size T.size)).all nameB then some (pcs (T.extract p.size T.size)) else none) else none
/-- the one definition that a source is -/
def defO (T : ByteArray) : Option Fm := if (parR T).2.2 = 0 then (match (parR T).1 with | [fm] => if fm.d then some fm else none | _ => none) else none
def vocB : ByteArray := ⟨#[118, 111, 99, 97, 98, 32]⟩
def useB : ByteArray := ⟨#[117, 115, 101, 115, 32]⟩
def endB : ByteArray := ⟨#[101, 110, 100]⟩
/-- a vocabulary as text -/
structure Mf where
  nm : ByteArray
  us : List ByteArray
  ds : List Fm
/-- definitions, up to the end -/
def mpD (z : Nat) : List (Nat × List UInt8) → List Fm → Except Nat (List Fm × List (Nat × List UInt8))
  | [], _ => .error z
  | (n, t) :: q, acc => if bt t = endB then .ok (acc, q) else match defO (bt t) with
    | none => .error n
    | some d => mpD z q (acc ++ [d])
def mkU (us : List ByteArray) : Except Nat (List Fm × List (Nat × List UInt8)) → Except Nat (List ByteArray × List Fm × List (Nat × List UInt8))
  | .error k => .error k
  | .ok (ds, q') => .ok (us, ds, q')
def mkM (nm : ByteArray) : Except Nat (List ByteArray × List Fm × List (Nat × List UInt8)) → Except Nat (Mf × List (Nat × List UInt8))
  | .error k => .error k
  | .ok (us, ds, q') => .ok (⟨nm, us, ds⟩, q')
theorem mkU_ok {us us' : List ByteArray} {X : Except Nat (List Fm × List (Nat × List UInt8))} {ds : List Fm} {q' : List (Nat × List UInt8)} (h : mkU us X = .ok (us', ds, q')) : us' = us ∧ X = .ok (ds, q') := by
  cases X with
  | error k => cases h
  | ok p =>
    obtain ⟨d, q⟩ := p
    simp only [mkU, Except.ok.injEq, Prod.mk.injEq] at h
    obtain ⟨rfl, rfl, rfl⟩ := h
    exact ⟨rfl, rfl⟩
theorem mkM_ok {nm : ByteArray} {X : Except Nat (List ByteArray × List Fm × List (Nat × List UInt8))} {m : Mf} {q' : List (Nat × List UInt8)} (h : mkM nm X = .ok (m, q')) : m.nm = nm ∧ X = .ok (m.us, m.ds, q') := by
  cases X with
  | error k => cases h
  | ok p =>
    obtain ⟨u, d, q⟩ := p
    simp only [mkM, Except.ok.injEq, Prod.mk.injEq] at h
    obtain ⟨rfl, rfl⟩ := h
    exact ⟨rfl, rfl⟩
/-- what stands behind a name -/
def mpU (z : Nat) (q : List (Nat × List UInt8)) : Except Nat (List ByteArray × List Fm × List (Nat × List UInt8)) :=
  match q with
  | [] => .error z
  | (n, t) :: q1 => match nmO (bt t) useB with
    | some us => mkU us (mpD z q1 [])
    | none => mkU [] (mpD z ((n, t) :: q1) [])
/-- one vocabulary -/
def mpR (z n : Nat) (t : List UInt8) (q : List (Nat × List UInt8)) : Except Nat (Mf × List (Nat × List UInt8)) :=
  match nmO (bt t) vocB with
  | some [nm] => mkM nm (mpU z q)
  | _ => .error n
def consM (m : Mf) : Except Nat (List Mf) → Except Nat (List Mf)
  | .error k => .error k
  | .ok l => .ok (m :: l)
/-- all of them -/
def mpA (z : Nat) (b : Bool) : Nat → List (Nat × List UInt8) → Except Nat (List Mf)
  | _, [] => if b then .ok [] else .error z
  | 0, _ :: _ => .error 0
  | f + 1, (n, t) :: q => match mpR z n t q with
    | .error k => .error k
    | .ok (m, q') => consM m (mpA z b f q')
def endM : Except Nat (List Mf) → List Mf × Nat × Nat
  | .error k => ([], k, 9)
  | .ok l => (l, 0, 0)
/-- what a text is read as -/
def mpS (s : ByteArray) : List Mf × Nat × Nat :=
  if 65536 < s.size then ([], 0, 11) else endM (mpA (linS s.data.toList [] 0).2.1 (linS s.data.toList [] 0).2.2 (linS s.data.toList [] 0).1.length (linS s.data.toList [] 0).1)
theorem mpD_len (z : Nat) : ∀ (q : List (Nat × List UInt8)) (acc ds : List Fm) (q' : List (Nat × List UInt8)), mpD z q acc = .ok (ds, q') → q'.length < q.length ∧ ds.length + q'.length ≤ acc.length + q.length
  | [], _, _, _, h => by simp [mpD] at h
  | (n, t) :: q, acc, ds, q', h => by
    unfold mpD at h
    split at h
    · simp only [Except.ok.injEq, Prod.mk.injEq] at h
      obtain ⟨rfl, rfl⟩ := h
      simp
    · split at h
      · cases h
      · have := mpD_len z q _ _ _ h
        simp at this ⊢
        omega
theorem mpU_len {z : Nat} {q : List (Nat × List UInt8)} {us : List ByteArray} {ds : List Fm} {q' : List (Nat × List UInt8)} (h : mpU z q = .ok (us, ds, q')) : q'.length < q.length ∧ ds.length ≤ q.length := by
  unfold mpU at h
  split at h
  · cases h
  · split at h
    · have := mpD_len z _ _ _ _ (mkU_ok h).2
      simp at this ⊢
      omega
    · have := mpD_len z _ _ _ _ (mkU_ok h).2
      simp at this ⊢
      omega
theorem mpR_len {z n : Nat} {t : List UInt8} {q : List (Nat × List UInt8)} {m : Mf} {q' : List (Nat × List UInt8)} (h : mpR z n t q = .ok (m, q')) : q'.length < q.length ∧ m.ds.length ≤ q.length := by
  unfold mpR at h
  split at h
  · exact mpU_len (mkM_ok h).2
  · cases h
end Go.Proofs.YtfecmpebnianpaaGreatDoor
