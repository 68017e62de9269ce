/- Many values as trees: Trees, ItemTrees. A definition as the document has it: DefTree. Forms as the document has them: FormTrees. Sources one behind the other: too many tokens; what both are read as. Sources one behind the other: forms. Items alone, and items of a source. What tokens hold, and what is read of them. What forms hold that are read. -/
import Derived.Test.YtapehdolnljnoaaDoorGah
import Derived.Test.YtapehdolnljnoaaDoorGag
namespace Go.Proofs.YtapehdolnljnoaaDoor
open Go.RowKit
set_option linter.unusedSimpArgs false
set_option linter.unusedVariables false
set_option maxRecDepth 100000 in
theorem v_info : ∃ i z, Tryd.prog.info? 38 = some i ∧ i.zero = some z ∧ i.size = 4 ∧ i.bytes = 56 ∧ z.cells.size = 4 := ⟨_, _, rfl, rfl, rfl, rfl, rfl⟩
set_option maxRecDepth 100000 in
set_option maxHeartbeats 4000000 in
theorem trees_of (d : Nat) (H : TeC d 38 false) : TsC d 56 false := by
  intro v l w S hq hl hw
  obtain ⟨av, cv, rfl, hcv, hel⟩ := hq
  have HE : Hid (∀ (j : Nat) (x : Tre), l[j]? = some x → ∃ g k u, av = some ⟨g, k, none⟩ ∧ w.cell? ⟨g, k + j, none⟩ = some u ∧ ∀ w1, Only (fun _ => False) w w1 → Calls Tryd.prog 38 #[u] w1 fun e w' => ∃ lv, e = .returned (.agg #[.int .i64 (x.k : Int), .int .i64 (vn x), .string (vs x), lv]) ∧ Hid (NvAt w' w1.heap.size d x lv ∧ Only (fun _ => False) w1 w')) := by
    intro j x hx
    obtain ⟨g, k, u, ha, hg, hc, ht⟩ := hel j x hx
    exact ⟨g, k, u, ha, hc, fun w1 o1 => H u x w1 S (ht.step (fun _ g => g) (fun a u _ hc => o1.cell hc (fun g => g)) (Nat.le_refl _)) (hw x (List.mem_of_getElem? hx))⟩
  have HLB : Hid (l.length ≤ 4096) := hl
  clear hcv hel hl hw H
  obtain ⟨N, hN⟩ : ∃ N, N = l.length := ⟨_, rfl⟩
  have HNN : Hid (N = l.length) := hN
  rw [← hN]
  clear hN
  go_enter Tryd.func56, Tryd.ntmps56
  go_wp2
  go_loopw [3, 4] (fun r3 r4 wr => ∃ (i : Nat) (ao : Option Addr) (cap : Nat), r3 = .slice ao i cap ∧ r4 = .int .i64 (i : Int) ∧ i ≤ N ∧ Hid (VrAt wr w.heap.size d (.slice ao i cap) (l.take i) ∧ Only (fun _ => False) w wr)) (fun _ r4 _ => N - uOf r4)
  case atStart => exact ⟨0, none, 0, rfl, rfl, Nat.zero_le _, vr_nil _ _ _, Only.refl _ _⟩
  case round =>
    obtain ⟨i, ao, cap, rfl, rfl, hi, HI⟩ := hrel
    obtain ⟨w1, rfl⟩ : ∃ w1, w1 = wr := ⟨_, rfl⟩
    have hNl : N = l.length := HNN.out
    have hN4 : l.length ≤ 4096 := HLB.out
    by_cases hiN : i < N
    · obtain ⟨x, hx⟩ : ∃ x, l[i]? = some x := ⟨l[i]'(by omega), List.getElem?_eq_getElem (by omega)⟩
      obtain ⟨g, k, u, rfl, hc, hcall⟩ := HE.out i x hx
      have hc1 : w1.cell? ⟨g, k + i, none⟩ = some u := HI.out.2.cell hc (fun g => g)
      have HC : Hid (Calls Tryd.prog 38 #[u] w1 fun e w' => ∃ lv, e = .returned (.agg #[.int .i64 (x.k : Int), .int .i64 (vn x), .string (vs x), lv]) ∧ Hid (NvAt w' w1.heap.size d x lv ∧ Only (fun _ => False) w1 w')) := hcall w1 HI.out.2
      have HX : Hid (l.take i ++ [x] = l.take (i + 1) ∧ (l.take i).length = i) := by
        have hil : i < l.length := by omega
        refine ⟨?_, by simp; omega⟩
        rw [List.take_add_one, hx]
        rfl
      have HB : Hid (i < N ∧ N ≤ 4096) := ⟨hiN, by omega⟩
      have i1 : (i : Int) < (N : Int) := by omega
      have i0 : (0 : Int) ≤ (i : Int) := by omega
      clear hc hcall HE hNl hN4 hx
      obtain ⟨x0, hx0⟩ : ∃ x0, x0 = (x.k : Int) := ⟨_, rfl⟩
      obtain ⟨x1, hx1⟩ : ∃ x1, x1 = vn x := ⟨_, rfl⟩
      obtain ⟨x2, hx2⟩ : ∃ x2, x2 = vs x := ⟨_, rfl⟩
      have HXX : Hid (x0 = (x.k : Int) ∧ x1 = vn x ∧ x2 = vs x) := ⟨hx0, hx1, hx2⟩
      rw [← hx0, ← hx1, ← hx2] at HC
      clear hx0 hx1 hx2
      go_wp2_with fail
      refine (show Calls Tryd.prog 38 _ _ _ from HC.out).mono ?_
      rintro e w2 ⟨lv, rfl, g2⟩
      obtain ⟨al, cl, hlv⟩ := g2.out.1.form
      have W4 : VrAt (w2.alloc (.cells #[.int .i64 x0, .int .i64 x1, .string x2, lv] 38)) w.heap.size d (.slice ao i cap) (l.take i) := (HI.out.1.only g2.out.2 (fun _ _ h => h)).only ((Only.refl (fun _ => False) w2).alloc _) (fun _ _ h => h)
      have N4 : NvAt (w2.alloc (.cells #[.int .i64 x0, .int .i64 x1, .string x2, lv] 38)) w1.heap.size d x lv := g2.out.1.only ((Only.refl (fun _ => False) w2).alloc _) (fun _ _ h => h)
      have O4 : Only (fun _ => False) w (w2.alloc (.cells #[.int .i64 x0, .int .i64 x1, .string x2, lv] 38)) := (HI.out.2.trans g2.out.2 (fun _ _ g => g)).alloc _
      have hlt : ∀ k, (Value.slice ao i cap).ownBlock = some k → k < w1.heap.size := fun k hk => by
        obtain ⟨us, S', hr, _⟩ := HI.out.1
        exact (hr.lt k hk).2
      have hsz1 : w.heap.size ≤ w1.heap.size := HI.out.2.size
      have hsz2 : w1.heap.size ≤ w2.heap.size := g2.out.2.size
      obtain ⟨us, SS, hown, htr, hSS⟩ := W4
      rw [HX.out.2] at hown
      have HOW : Hid ((w2.alloc (.cells #[.int .i64 x0, .int .i64 x1, .string x2, lv] 38)).ownsRow w.heap.size 38 4 (.slice ao i cap) i us) := hown
      have HAL : Hid (_ ∧ _ ∧ NvAt (w2.alloc (.cells #[.int .i64 x0, .int .i64 x1, .string x2, lv] 38)) w1.heap.size d x lv ∧ Only (fun _ => False) w (w2.alloc (.cells #[.int .i64 x0, .int .i64 x1, .string x2, lv] 38)) ∧ w.heap.size ≤ w1.heap.size ∧ (∀ k, (Value.slice ao i cap).ownBlock = some k → k < w1.heap.size)) := ⟨htr, hSS, N4, O4, hsz1, hlt⟩
      subst hlv
      obtain ⟨i0', z0, hi', hz0, hz1, hz2, hz3⟩ := v_info
      obtain ⟨xl, hxl⟩ : ∃ xl, xl = x.l.length := ⟨_, rfl⟩
      rw [← hxl] at HOW HAL
      rw [← hxl]
      clear N4 O4 hown htr hSS hlt g2 HI HC hxl
      go_wp2_with (at_builtin; refine wpList_append_own_at _ rfl _ _ 34 rfl w.heap.size 38 i0' z0 4 56 Tryd.underlying34 hi' hz0 hz1 hz2 hz3 (by decide) _ i us rfl HOW.out ⟨w2.heap.size, 0, none⟩ 1 1 [.int .i64 x0, .int .i64 x1, .string x2, .slice al xl cl] rfl rfl ?c1 ?c2 ?c3 ?c4 ?c5 ?_)
      case c1 =>
        intro j u hj
        rcases j with _ | _ | _ | _ | j <;> simp at hj <;> subst hj <;> simp [Addr.add]
      case c2 =>
        intro u hu
        simp only [List.mem_cons, List.not_mem_nil, or_false] at hu
        rcases hu with rfl | rfl | rfl | rfl <;> rfl
      case c3 => have := HB.out; unfold maxLen; omega
      case c4 => have := HB.out; omega
      case c5 => simp; omega
      intro v' w4 hown' hgrow _ hat
      obtain ⟨a1, a2, a3, a4, a5, a6⟩ := HAL.out
      obtain ⟨e0, e1, e2⟩ := HXX.out
      have W5 : VrAt w4 w.heap.size d v' (l.take i ++ [x]) := VrAt.snoc hgrow (by rw [HX.out.2]; exact HOW.out) a1 a2 a3 a5 a6 (by rw [HX.out.2, ← e0, ← e1, ← e2]; exact hown') (by simpa using hat)
      rw [HX.out.1] at W5
      have og : Only (fun k => (Value.slice ao i cap).ownBlock = some k) (w2.alloc (.cells #[.int .i64 x0, .int .i64 x1, .string x2, .slice al xl cl] 38)) w4 := (Only.refl _ _).grown hgrow (fun k e _ => e)
      have O5 : Only (fun _ => False) w w4 := a4.trans og (fun k hk e => by have := (HOW.out.lt k e).1; omega)
      obtain ⟨ao', cap', hv'⟩ := W5.form
      have hlen : (l.take (i + 1)).length = i + 1 := by have : N = l.length := HNN.out; have := HB.out; simp; omega
      rw [hlen] at hv'
      subst hv'
      have HK5 : Hid (VrAt w4 w.heap.size d (.slice ao' (i + 1) cap') (l.take (i + 1)) ∧ Only (fun _ => False) w w4) := ⟨W5, O5⟩
      clear W5 O5 og HAL HOW hown' hgrow hat a1 a2 a3 a4 a5 a6 hi' hz0 hz1 hz2 hz3 hsz1 hsz2 e0 e1 e2 HXX hlen
      have hi4 : i ≤ 4096 := by have := HB.out; omega
      go_wp2
      go_roundw
      case rel => exact ⟨i + 1, ao', cap', rfl, by go_num, by omega, HK5⟩
      case measure => simp only [uOf]; have := HB.out; omega
    · obtain rfl : i = N := by omega
      have i1 : ¬ (i : Int) < (i : Int) := by omega
      have HK : Hid (VrAt w1 w.heap.size d (.slice ao i cap) l ∧ Only (fun _ => False) w w1) := by
        have := HI.out
        rw [hNl, List.take_length, ← hNl] at this
        exact this
      clear HI hNl hN4
      go_wp2
      go_ret
      exact ⟨ao, cap, rfl, HK⟩
set_option maxRecDepth 100000 in
set_option maxHeartbeats 4000000 in
theorem itrees_of (d : Nat) (H : TeC d 24 true) : TsC d 37 true := by
  intro v l w S hq hl hw
  obtain ⟨av, cv, rfl, hcv, hel⟩ := hq
  have HE : Hid (∀ (j : Nat) (x : Tre), l[j]? = some x → ∃ g k u, av = some ⟨g, k, none⟩ ∧ w.cell? ⟨g, k + j, none⟩ = some u ∧ ∀ w1, Only (fun _ => False) w w1 → Calls Tryd.prog 24 #[u] w1 fun e w' => ∃ lv, e = .returned (.agg #[.int .i64 (x.k : Int), .int .i64 (vn x), .string (vs x), lv]) ∧ Hid (NvAt w' w1.heap.size d x lv ∧ Only (fun _ => False) w1 w')) := by
    intro j x hx
    obtain ⟨g, k, u, ha, hg, hc, ht⟩ := hel j x hx
    exact ⟨g, k, u, ha, hc, fun w1 o1 => H u x w1 S (ht.step (fun _ g => g) (fun a u _ hc => o1.cell hc (fun g => g)) (Nat.le_refl _)) (hw x (List.mem_of_getElem? hx))⟩
  have HLB : Hid (l.length ≤ 4096) := hl
  clear hcv hel hl hw H
  obtain ⟨N, hN⟩ : ∃ N, N = l.length := ⟨_, rfl⟩
  have HNN : Hid (N = l.length) := hN
  rw [← hN]
  clear hN
  go_enter Tryd.func37, Tryd.ntmps37
  go_wp2
  go_loopw [3, 4] (fun r3 r4 wr => ∃ (i : Nat) (ao : Option Addr) (cap : Nat), r3 = .slice ao i cap ∧ r4 = .int .i64 (i : Int) ∧ i ≤ N ∧ Hid (VrAt wr w.heap.size d (.slice ao i cap) (l.take i) ∧ Only (fun _ => False) w wr)) (fun _ r4 _ => N - uOf r4)
  case atStart => exact ⟨0, none, 0, rfl, rfl, Nat.zero_le _, vr_nil _ _ _, Only.refl _ _⟩
  case round =>
    obtain ⟨i, ao, cap, rfl, rfl, hi, HI⟩ := hrel
    obtain ⟨w1, rfl⟩ : ∃ w1, w1 = wr := ⟨_, rfl⟩
    have hNl : N = l.length := HNN.out
    have hN4 : l.length ≤ 4096 := HLB.out
    by_cases hiN : i < N
    · obtain ⟨x, hx⟩ : ∃ x, l[i]? = some x := ⟨l[i]'(by omega), List.getElem?_eq_getElem (by omega)⟩
      obtain ⟨g, k, u, rfl, hc, hcall⟩ := HE.out i x hx
      have hc1 : w1.cell? ⟨g, k + i, none⟩ = some u := HI.out.2.cell hc (fun g => g)
      have HC : Hid (Calls Tryd.prog 24 #[u] w1 fun e w' => ∃ lv, e = .returned (.agg #[.int .i64 (x.k : Int), .int .i64 (vn x), .string (vs x), lv]) ∧ Hid (NvAt w' w1.heap.size d x lv ∧ Only (fun _ => False) w1 w')) := hcall w1 HI.out.2
      have HX : Hid (l.take i ++ [x] = l.take (i + 1) ∧ (l.take i).length = i) := by
        have hil : i < l.length := by omega
        refine ⟨?_, by simp; omega⟩
        rw [List.take_add_one, hx]
        rfl
      have HB : Hid (i < N ∧ N ≤ 4096) := ⟨hiN, by omega⟩
      have i1 : (i : Int) < (N : Int) := by omega
      have i0 : (0 : Int) ≤ (i : Int) := by omega
      clear hc hcall HE hNl hN4 hx
      obtain ⟨x0, hx0⟩ : ∃ x0, x0 = (x.k : Int) := ⟨_, rfl⟩
      obtain ⟨x1, hx1⟩ : ∃ x1, x1 = vn x := ⟨_, rfl⟩
      obtain ⟨x2, hx2⟩ : ∃ x2, x2 = vs x := ⟨_, rfl⟩
      have HXX : Hid (x0 = (x.k : Int) ∧ x1 = vn x ∧ x2 = vs x) := ⟨hx0, hx1, hx2⟩
      rw [← hx0, ← hx1, ← hx2] at HC
      clear hx0 hx1 hx2
      go_wp2_with fail
      refine (show Calls Tryd.prog 24 _ _ _ from HC.out).mono ?_
      rintro e w2 ⟨lv, rfl, g2⟩
      obtain ⟨al, cl, hlv⟩ := g2.out.1.form
      have W4 : VrAt (w2.alloc (.cells #[.int .i64 x0, .int .i64 x1, .string x2, lv] 38)) w.heap.size d (.slice ao i cap) (l.take i) := (HI.out.1.only g2.out.2 (fun _ _ h => h)).only ((Only.refl (fun _ => False) w2).alloc _) (fun _ _ h => h)
      have N4 : NvAt (w2.alloc (.cells #[.int .i64 x0, .int .i64 x1, .string x2, lv] 38)) w1.heap.size d x lv := g2.out.1.only ((Only.refl (fun _ => False) w2).alloc _) (fun _ _ h => h)
      have O4 : Only (fun _ => False) w (w2.alloc (.cells #[.int .i64 x0, .int .i64 x1, .string x2, lv] 38)) := (HI.out.2.trans g2.out.2 (fun _ _ g => g)).alloc _
      have hlt : ∀ k, (Value.slice ao i cap).ownBlock = some k → k < w1.heap.size := fun k hk => by
        obtain ⟨us, S', hr, _⟩ := HI.out.1
        exact (hr.lt k hk).2
      have hsz1 : w.heap.size ≤ w1.heap.size := HI.out.2.size
      have hsz2 : w1.heap.size ≤ w2.heap.size := g2.out.2.size
      obtain ⟨us, SS, hown, htr, hSS⟩ := W4
      rw [HX.out.2] at hown
      have HOW : Hid ((w2.alloc (.cells #[.int .i64 x0, .int .i64 x1, .string x2, lv] 38)).ownsRow w.heap.size 38 4 (.slice ao i cap) i us) := hown
      have HAL : Hid (_ ∧ _ ∧ NvAt (w2.alloc (.cells #[.int .i64 x0, .int .i64 x1, .string x2, lv] 38)) w1.heap.size d x lv ∧ Only (fun _ => False) w (w2.alloc (.cells #[.int .i64 x0, .int .i64 x1, .string x2, lv] 38)) ∧ w.heap.size ≤ w1.heap.size ∧ (∀ k, (Value.slice ao i cap).ownBlock = some k → k < w1.heap.size)) := ⟨htr, hSS, N4, O4, hsz1, hlt⟩
      subst hlv
      obtain ⟨i0', z0, hi', hz0, hz1, hz2, hz3⟩ := v_info
      obtain ⟨xl, hxl⟩ : ∃ xl, xl = x.l.length := ⟨_, rfl⟩
      rw [← hxl] at HOW HAL
      rw [← hxl]
      clear N4 O4 hown htr hSS hlt g2 HI HC hxl
      go_wp2_with (at_builtin; refine wpList_append_own_at _ rfl _ _ 34 rfl w.heap.size 38 i0' z0 4 56 Tryd.underlying34 hi' hz0 hz1 hz2 hz3 (by decide) _ i us rfl HOW.out ⟨w2.heap.size, 0, none⟩ 1 1 [.int .i64 x0, .int .i64 x1, .string x2, .slice al xl cl] rfl rfl ?c1 ?c2 ?c3 ?c4 ?c5 ?_)
      case c1 =>
        intro j u hj
        rcases j with _ | _ | _ | _ | j <;> simp at hj <;> subst hj <;> simp [Addr.add]
      case c2 =>
        intro u hu
        simp only [List.mem_cons, List.not_mem_nil, or_false] at hu
        rcases hu with rfl | rfl | rfl | rfl <;> rfl
      case c3 => have := HB.out; unfold maxLen; omega
      case c4 => have := HB.out; omega
      case c5 => simp; omega
      intro v' w4 hown' hgrow _ hat
      obtain ⟨a1, a2, a3, a4, a5, a6⟩ := HAL.out
      obtain ⟨e0, e1, e2⟩ := HXX.out
      have W5 : VrAt w4 w.heap.size d v' (l.take i ++ [x]) := VrAt.snoc hgrow (by rw [HX.out.2]; exact HOW.out) a1 a2 a3 a5 a6 (by rw [HX.out.2, ← e0, ← e1, ← e2]; exact hown') (by simpa using hat)
      rw [HX.out.1] at W5
      have og : Only (fun k => (Value.slice ao i cap).ownBlock = some k) (w2.alloc (.cells #[.int .i64 x0, .int .i64 x1, .string x2, .slice al xl cl] 38)) w4 := (Only.refl _ _).grown hgrow (fun k e _ => e)
      have O5 : Only (fun _ => False) w w4 := a4.trans og (fun k hk e => by have := (HOW.out.lt k e).1; omega)
      obtain ⟨ao', cap', hv'⟩ := W5.form
      have hlen : (l.take (i + 1)).length = i + 1 := by have : N = l.length := HNN.out; have := HB.out; simp; omega
      rw [hlen] at hv'
      subst hv'
      have HK5 : Hid (VrAt w4 w.heap.size d (.slice ao' (i + 1) cap') (l.take (i + 1)) ∧ Only (fun _ => False) w w4) := ⟨W5, O5⟩
      clear W5 O5 og HAL HOW hown' hgrow hat a1 a2 a3 a4 a5 a6 hi' hz0 hz1 hz2 hz3 hsz1 hsz2 e0 e1 e2 HXX hlen
      have hi4 : i ≤ 4096 := by have := HB.out; omega
      go_wp2
      go_roundw
      case rel => exact ⟨i + 1, ao', cap', rfl, by go_num, by omega, HK5⟩
      case measure => simp only [uOf]; have := HB.out; omega
    · obtain rfl : i = N := by omega
      have i1 : ¬ (i : Int) < (i : Int) := by omega
      have HK : Hid (VrAt w1 w.heap.size d (.slice ao i cap) l ∧ Only (fun _ => False) w w1) := by
        have := HI.out
        rw [hNl, List.take_length, ← hNl] at this
        exact this
      clear HI hNl hN4
      go_wp2
      go_ret
      exact ⟨ao, cap, rfl, HK⟩
theorem trees_any : ∀ (d d' : Nat), d' < d → TeC d' 38 false ∧ TeC d' 24 true
  | 0, d', h => by omega
  | d + 1, d', h => by
    have ih := trees_any d
    by_cases hd : d' < d
    · exact ih d' hd
    · obtain rfl : d' = d := by omega
      cases d' with
      | zero => exact ⟨fun v t w S h => h.elim, fun v t w S h => h.elim⟩
      | succ e => exact ⟨tree_of e (trees_of e (ih e (by omega)).1) (itrees_of e (ih e (by omega)).2), itree_of e (ih e (by omega)).1⟩
theorem itrees_any (d : Nat) : TsC d 37 true := itrees_of d (trees_any (d + 1) d (by omega)).2
end Go.Proofs.YtapehdolnljnoaaDoor
namespace Go.Proofs.YtapehdolnljnoaaDoor
open Go.RowKit
set_option linter.unusedSimpArgs false
set_option linter.unusedVariables false
theorem results_dd {fn : Func} {u : Tmp} (h : fn.results = #[.cell u 36]) (tmps : Array Value) (w : World) (B : Nat) {x y z r : Value} (h0 : w.cell? ⟨B, 0, none⟩ = some x) (h1 : w.cell? ⟨B, 1, none⟩ = some y) (h2 : w.cell? ⟨B, 2, none⟩ = some z) (h3 : w.cell? ⟨B, 3, none⟩ = some r) (ha : tmps.getD u undef = .pointer (some ⟨B, 0, none⟩)) :
    (results fn tmps).run Tryd.prog w = .ok (.agg #[x, y, z, r]) w := by
  have ha' : tmps[u]?.getD undef = .pointer (some ⟨B, 0, none⟩) := by simpa using ha
  simp [results, h, ha', asAddr, go_sem, loadVar, isAgg, Tryd.underlying36, h0, h1, h2, h3]
theorem VrAt.lower {w : World} {B C d : Nat} {v : Value} {l : List Tre} (h : VrAt w B d v l) (hC : C ≤ B) : VrAt w C d v l := by
  obtain ⟨us, SS, ho, ht, hS⟩ := h
  refine ⟨us, SS, ⟨ho.1, ?_⟩, ht, fun b hb => ⟨Nat.le_trans hC (hS b hb).1, (hS b hb).2⟩⟩
  rcases ho.2 with g | ⟨g, cc, cur, h1, h2, h3⟩
  · exact .inl g
  · exact .inr ⟨g, cc, cur, h1, by omega, h3⟩
set_option maxRecDepth 100000 in
set_option maxHeartbeats 4000000 in
theorem deftree_any (d : Nat) (nm : ByteArray) (x y : Int) (l : List Tre) (ao : Option Addr) (cap : Nat) (w : World) (S : Nat → Prop) (h : SqAt w S d true (.slice ao l.length cap) l) (hl : l.length ≤ 4096) (hw : ∀ t ∈ l, ∃ e, WfT e t) :
    Calls Tryd.prog 23 #[.agg #[.string nm, .int .i64 x, .int .i64 y, .slice ao l.length cap]] w fun e w' => ∃ ao' cap', e = .returned (.agg #[.string nm, .int .i64 x, .int .i64 y, .slice ao' l.length cap']) ∧ Hid (VrAt w' w.heap.size d (.slice ao' l.length cap') l ∧ Only (fun _ => False) w w') := by
  have HC : Hid (∀ w1, Only (fun _ => False) w w1 → Calls Tryd.prog 37 #[.slice ao l.length cap] w1 fun e w' => ∃ ao cap, e = .returned (.slice ao l.length cap) ∧ Hid (VrAt w' w1.heap.size d (.slice ao l.length cap) l ∧ Only (fun _ => False) w1 w')) := fun w1 o1 => itrees_any d _ _ _ S (h.step (fun _ g => g) (fun a u _ hc => o1.cell hc (fun g => g)) (Nat.le_refl _)) hl hw
  have O0 : Hid (Only (fun _ => False) w w) := Only.refl _ _
  clear h hl hw
  obtain ⟨L, hL⟩ : ∃ L, L = l.length := ⟨_, rfl⟩
  have HL : Hid (L = l.length) := hL
  rw [← hL] at HC
  rw [← hL]
  clear hL
  go_enter Tryd.func23, Tryd.ntmps23
  go_wp2_with fail
  obtain ⟨W, hW⟩ : ∃ W, W = (w.alloc (.cells #[.string nm, .int .i64 x, .int .i64 y, .slice ao L cap] 51)).alloc (.cells #[.string ⟨#[]⟩, .int .i64 0, .int .i64 0, .slice none 0 0] 36) := ⟨_, rfl⟩
  have OW : Hid (Only (fun _ => False) w W) := by show Only _ _ _; rw [hW]; exact (O0.out.alloc _).alloc _
  have hP : W.heap[w.heap.size]? = some (.cells #[.string nm, .int .i64 x, .int .i64 y, .slice ao L cap] 51) := by
    rw [hW]
    exact (((Only.refl (fun _ => False) _).alloc _).block w.heap.size (by simp) (fun h => h)).trans (alloc_at _ _ _ rfl)
  have hQ : W.heap[w.heap.size + 1]? = some (.cells #[.string ⟨#[]⟩, .int .i64 0, .int .i64 0, .slice none 0 0] 36) := by
    rw [hW]
    exact alloc_at _ _ _ (by simp)
  obtain ⟨B, hB⟩ : ∃ B, B = w.heap.size := ⟨_, rfl⟩
  have HB : Hid (B = w.heap.size) := hB
  rw [← hB] at hP hQ
  rw [← hW, ← hB]
  have HP : Hid (W.heap[B]? = some (.cells #[.string nm, .int .i64 x, .int .i64 y, .slice ao L cap] 51) ∧ W.heap[B + 1]? = some (.cells #[.string ⟨#[]⟩, .int .i64 0, .int .i64 0, .slice none 0 0] 36)) := ⟨hP, hQ⟩
  have p0 := blk_cells hP 0
  have p1 := blk_cells hP 1
  have p2 := blk_cells hP 2
  have p3 := blk_cells hP 3
  simp only [List.getElem?_toArray, List.getElem?_cons_zero, List.getElem?_cons_succ] at p0 p1 p2 p3
  clear hW hB hP hQ O0
  have HG : Hid (∀ w1, Only (fun _ => False) W.drew w1 → w1.heap[B]? = some (.cells #[.string nm, .int .i64 x, .int .i64 y, .slice ao L cap] 51) ∧ w1.heap[B + 1]? = some (.cells #[.string ⟨#[]⟩, .int .i64 0, .int .i64 0, .slice none 0 0] 36)) := by
    intro w1 o1
    exact ⟨(o1.block B (Array.getElem?_eq_some_iff.1 HP.out.1).1 (fun h => h)).trans HP.out.1, (o1.block (B + 1) (Array.getElem?_eq_some_iff.1 HP.out.2).1 (fun h => h)).trans HP.out.2⟩
  go_region_held3 (fun w' => w'.cell? ⟨B, 0, none⟩ = some (.string nm) ∧ w'.cell? ⟨B, 1, none⟩ = some (.int .i64 x) ∧ w'.cell? ⟨B, 2, none⟩ = some (.int .i64 y) ∧ w'.cell? ⟨B, 3, none⟩ = some (.slice ao L cap))
    (first | exact ⟨p0, p1, p2, p3⟩ | exact ⟨q0, q1, q2, q3⟩ | go_keep)
    (first | (go_at_call 37; refine (show Calls Tryd.prog 37 _ _ _ from HC.out _ (OW.out.drew)).mono ?_; rintro ex w1 ⟨ao', cap', rfl, g1⟩; obtain ⟨b1, b2⟩ := HG.out w1 g1.out.2; have q0 := blk_cells b1 0; have q1 := blk_cells b1 1; have q2 := blk_cells b1 2; have q3 := blk_cells b1 3; have c0 := blk_cells b2 0; have c1 := blk_cells b2 1; have c2 := blk_cells b2 2; have c3 := blk_cells b2 3; have z0 := blk_froz b2 0; have z1 := blk_froz b2 1; have z2 := blk_froz b2 2; have z3 := blk_froz b2 3; simp only [List.getElem?_toArray, List.getElem?_cons_zero, List.getElem?_cons_succ] at q0 q1 q2 q3 c0 c1 c2 c3))
  have hBe : B = w.heap.size := HB.out
  have hWs : B + 1 < W.heap.size := (Array.getElem?_eq_some_iff.1 HP.out.2).1
  have e1 : L = l.length := HL.out
  have HF : Hid (w1.heap[B + 1]? = some (.cells #[.string ⟨#[]⟩, .int .i64 0, .int .i64 0, .slice none 0 0] 36) ∧ VrAt w1 (B + 2) d (.slice ao' L cap') l ∧ Only (fun _ => False) w w1) := ⟨b2, g1.out.1.lower (show B + 2 ≤ W.heap.size by omega), OW.out.drew.trans g1.out.2 (fun _ _ g => g)⟩
  clear HC HG HP OW g1 b1 b2 q0 q1 q2 q3 c0 c1 c2 c3 z0 z1 z2 z3 p0 p1 p2 p3 hWs
  have HBe : Hid (B = w.heap.size ∧ L = l.length) := ⟨hBe, e1⟩
  clear hBe e1
  go_wp2
  obtain ⟨r0, r1, r2, r3⟩ := set4 HF.out.1 rfl (.string nm) (.int .i64 x) (.int .i64 y) (.slice ao' L cap')
  have OB := @only4 w1 (B + 1) (.string nm) (.int .i64 x) (.int .i64 y) (.slice ao' L cap')
  have hBe := HBe.out.1
  refine bodyPost_ret (results_dd rfl _ _ (B + 1) r0 r1 r2 r3 rfl) rfl ⟨ao', cap', rfl, (HF.out.2.1.only OB (fun b h e => by omega)).lower (by omega), HF.out.2.2.trans OB (fun b h e => by omega)⟩
end Go.Proofs.YtapehdolnljnoaaDoor
namespace Go.Proofs.YtapehdolnljnoaaDoor
open Go.RowKit
set_option linter.unusedSimpArgs false
set_option linter.unusedVariables false
/-- a form whose parts are lists of at most 4096 -/
def Wfm (fm : Fm) : Prop := fm.b.length ≤ 4096 ∧ (∀ x ∈ fm.b, ∃ e, WfT e x) ∧ (fm.d = false → ∃ e, WfT e fm.it)
/-- a slice of forms that can be read -/
def FrAt (w : World) (S : Nat → Prop) (d : Nat) (v : Value) (l : List Fm) : Prop :=
  ∃ ao cap, v = .slice ao l.length cap ∧ ∀ (j : Nat) (fm : Fm), l[j]? = some fm → ∃ g bv iv, ao = some ⟨g, 0, none⟩ ∧ (w.cell? ⟨g, j * 6, none⟩ = some (.bool fm.d) ∧ w.cell? ⟨g, j * 6 + 1, none⟩ = some (.string fm.nm) ∧ w.cell? ⟨g, j * 6 + 2, none⟩ = some (.int .i64 (fm.i : Int)) ∧ w.cell? ⟨g, j * 6 + 3, none⟩ = some (.int .i64 (fm.j : Int)) ∧ w.cell? ⟨g, j * 6 + 4, none⟩ = some bv ∧ w.cell? ⟨g, j * 6 + 5, none⟩ = some iv) ∧ FmAt w S d fm bv iv
theorem FsAt.read {w : World} {B d : Nat} {v : Value} {l : List Fm} (h : FsAt w B d v l) : ∃ S, FrAt w S d v l := by
  obtain ⟨us, S, ho, ht, hS⟩ := h
  refine ⟨S, ?_⟩
  rcases ho.2 with ⟨rfl, h2⟩ | ⟨g, cap, cur, hv, hB, hg, hn, hcm, hcs, htk⟩
  · have : l = [] := List.eq_nil_of_length_eq_zero h2
    subst this
    exact ⟨none, 0, rfl, fun j fm hj => by simp at hj⟩
  · refine ⟨some ⟨g, 0, none⟩, cap, hv, fun j fm hj => ?_⟩
    obtain ⟨bv, iv, ⟨h0, h1, h2, h3, h4, h5⟩, h6⟩ := ht j fm hj
    have hc : ∀ j u, us[j]? = some u → w.cell? ⟨g, j, none⟩ = some u := fun j u hu => by
      have := ho.cells (g := g) (by rw [hv]; rfl) j u hu
      rwa [addr_ad] at this
    exact ⟨g, bv, iv, rfl, ⟨hc _ _ h0, hc _ _ h1, hc _ _ h2, hc _ _ h3, hc _ _ h4, hc _ _ h5⟩, h6⟩
theorem FrAt.only {w w' : World} {S : Nat → Prop} {d : Nat} {v : Value} {l : List Fm} (h : FrAt w S d v l) (o : Only (fun _ => False) w w') : FrAt w' S d v l := by
  obtain ⟨ao, cap, hv, hl⟩ := h
  refine ⟨ao, cap, hv, fun j fm hj => ?_⟩
  obtain ⟨g, bv, iv, ha, ⟨h0, h1, h2, h3, h4, h5⟩, h6⟩ := hl j fm hj
  exact ⟨g, bv, iv, ha, ⟨o.cell h0 (fun g => g), o.cell h1 (fun g => g), o.cell h2 (fun g => g), o.cell h3 (fun g => g), o.cell h4 (fun g => g), o.cell h5 (fun g => g)⟩, h6.step (fun _ g => g) (fun a u _ hc => o.cell hc (fun g => g)) (Nat.le_refl _)⟩
def bdT (fm : Fm) : Tre := ⟨5, 0, ⟨#[]⟩, fm.b⟩
def fC (fm : Fm) (bl il : Value) : List Value := [.bool fm.d, .string fm.nm, .int .i64 (fm.i : Int), .int .i64 (fm.j : Int), bl, .int .i64 (fm.it.k : Int), .int .i64 (vn fm.it), .string (vs fm.it), il]
/-- a row of the document's forms that was made since block B -/
def VfAt (w : World) (B d : Nat) (v : Value) (l : List Fm) : Prop :=
  ∃ us S, w.ownsRow B 40 9 v l.length us ∧ (∀ (j : Nat) (fm : Fm), l[j]? = some fm → ∃ bl il, (∀ i u, (fC fm bl il)[i]? = some u → us[j * 9 + i]? = some u) ∧ VtAt w S d (bdT fm) bl ∧ VtAt w S d fm.it il) ∧ ∀ b, S b → B ≤ b ∧ b < w.heap.size ∧ v.ownBlock ≠ some b
theorem vf_nil (w : World) (B d : Nat) : VfAt w B d (.slice none 0 0) [] :=
  ⟨[], fun _ => False, ⟨rfl, .inl ⟨rfl, rfl⟩⟩, fun j x h => by simp at h, fun b h => h.elim⟩
theorem VfAt.form {w : World} {B d : Nat} {v : Value} {l : List Fm} (h : VfAt w B d v l) : ∃ ao cap, v = .slice ao l.length cap := by
  obtain ⟨us, S, ho, _⟩ := h
  rcases ho.2 with ⟨h1, h2⟩ | ⟨g, cap, cur, h1, _⟩
  · exact ⟨_, _, by rw [h1, h2]⟩
  · exact ⟨_, _, h1⟩
theorem VfAt.only {w w' : World} {B d : Nat} {v : Value} {l : List Fm} {bs : Nat → Prop} (h : VfAt w B d v l) (o : Only bs w w') (hb : ∀ b, B ≤ b → ¬ bs b) : VfAt w' B d v l := by
  obtain ⟨us, S, ho, ht, hS⟩ := h
  refine ⟨us, S, o.owns ho (fun k hk => hb k (ho.lt k hk).1), fun j x hx => ?_, fun b hbS => ?_⟩
  · obtain ⟨bl, il, hu, h2, h3⟩ := ht j x hx
    exact ⟨bl, il, hu, h2.step (fun _ g => g) (fun a u hs hc => o.cell hc (hb _ (hS _ hs).1)) (Nat.le_refl _), h3.step (fun _ g => g) (fun a u hs hc => o.cell hc (hb _ (hS _ hs).1)) (Nat.le_refl _)⟩
  · obtain ⟨h1, h2, h3⟩ := hS b hbS
    exact ⟨h1, Nat.lt_of_lt_of_le h2 o.size, h3⟩
theorem VfAt.snoc {w w' : World} {B C d : Nat} {v v' : Value} {l : List Fm} {fm : Fm} {bl il : Value} {us : List Value} {S : Nat → Prop} (hg : w.grownBy w' v.ownBlock) (ho : w.ownsRow B 40 9 v l.length us) (ht : ∀ (j : Nat) (fm : Fm), l[j]? = some fm → ∃ bl il, (∀ i u, (fC fm bl il)[i]? = some u → us[j * 9 + i]? = some u) ∧ VtAt w S d (bdT fm) bl ∧ VtAt w S d fm.it il) (hS : ∀ b, S b → B ≤ b ∧ b < w.heap.size ∧ v.ownBlock ≠ some b)
    (hn : NvAt w C d (bdT fm) bl) (hn2 : NvAt w C d fm.it il) (hC : B ≤ C) (hv : ∀ k, v.ownBlock = some k → k < C) (ho' : w'.ownsRow B 40 9 v' (l.length + 1) (us ++ fC fm bl il)) (hat : v'.ownBlock = v.ownBlock ∨ v'.ownBlock = some w.heap.size) : VfAt w' B d v' (l ++ [fm]) := by
  obtain ⟨S1, t1, s1⟩ := hn
  obtain ⟨S2, t2, s2⟩ := hn2
  have oo : Only (fun k => v.ownBlock = some k) w w' := (Only.refl _ w).grown hg (fun k e _ => e)
  have a1 : ∀ b, S b → ¬ v.ownBlock = some b := fun b h => (hS b h).2.2
  have a2 : ∀ b, S1 b → ¬ v.ownBlock = some b := fun b h e => by have := hv b e; have := (s1 b h).1; omega
  have a3 : ∀ b, S2 b → ¬ v.ownBlock = some b := fun b h e => by have := hv b e; have := (s2 b h).1; omega
  have hl : us.length = l.length * 9 := ho.1
  refine ⟨_, fun b => S b ∨ S1 b ∨ S2 b, by simpa using ho', fun j x hx => ?_, fun b hb => ?_⟩
  · by_cases hj : j < l.length
    · rw [List.getElem?_append_left hj] at hx
      obtain ⟨bl', il', h0, h1, h2⟩ := ht j x hx
      refine ⟨bl', il', fun i u hu => ?_, h1.step (fun _ g => .inl g) (fun a y hs hc => oo.cell hc (a1 _ hs)) (Nat.le_refl _), h2.step (fun _ g => .inl g) (fun a y hs hc => oo.cell hc (a1 _ hs)) (Nat.le_refl _)⟩
      have := h0 i u hu
      rw [List.getElem?_append_left (List.getElem?_eq_some_iff.1 this).1]
      exact this
    · have hj2 : j < (l ++ [fm]).length := (List.getElem?_eq_some_iff.1 hx).1
      have hj3 : j = l.length := by simp at hj2; omega
      subst hj3
      simp at hx
      subst hx
      refine ⟨bl, il, fun i u hu => ?_, t1.step (fun _ g => .inr (.inl g)) (fun a y hs hc => oo.cell hc (a2 _ hs)) (Nat.le_refl _), t2.step (fun _ g => .inr (.inr g)) (fun a y hs hc => oo.cell hc (a3 _ hs)) (Nat.le_refl _)⟩
      rw [List.getElem?_append_right (by omega), show l.length * 9 + i - us.length = i by omega]
      exact hu
  · have h1 : B ≤ b ∧ b < w.heap.size ∧ v.ownBlock ≠ some b := by
      rcases hb with h | h | h
      · exact hS b h
      · exact ⟨Nat.le_trans hC (s1 b h).1, (s1 b h).2, a2 b h⟩
      · exact ⟨Nat.le_trans hC (s2 b h).1, (s2 b h).2, a3 b h⟩
    refine ⟨h1.1, Nat.lt_of_lt_of_le h1.2.1 oo.size, ?_⟩
    rcases hat with e | e <;> rw [e]
    · exact h1.2.2
    · intro e2
      injection e2 with e2
      have := h1.2.1
      omega
end Go.Proofs.YtapehdolnljnoaaDoor
namespace Go.Proofs.YtapehdolnljnoaaDoor
open Go.RowKit
set_option linter.unusedSimpArgs false
set_option linter.unusedVariables false
theorem tokH_full {s : ByteArray} {a : Nat} {acc : List Tok} (h : a < s.size) (h0 : (redR s a).2.2 = 0) (h1 : acc.length = 4096) : tokH s a acc = ([], a, 11) := by
  unfold tokH tokG
  rw [if_pos h, if_pos h0, if_pos h1]
theorem tok_over {s S : ByteArray} {y : List Nat} {d : Nat} (hy : Ynl y) : ∀ (n : Nat) (q : List Nat) (a : Nat) (acc' : List Tok), q.length ≤ n → Sfx s q a → Sfx S (q ++ y) (a + d) → (tokH s (bg s a) acc').2.2 = 0 →
    ∃ R, (tokH s (bg s a) acc').1 = acc' ++ R ∧ ∀ acc : List Tok, acc.length ≤ 4096 → 4096 < acc.length + R.length → (tokH S (bg S (a + d)) acc).2.2 = 11 := by
  intro n
  induction n with
  | zero =>
    intro q a acc' hn h g hz
    obtain rfl : q = [] := List.eq_nil_of_length_eq_zero (by omega)
    have hb : Sfx s [] (bg s a) := bg_sfx h
    have hs := h.size
    have hbs := hb.size
    rw [wl_nil] at hs hbs
    refine ⟨[], by rw [tokH_end _ (by omega)]; simp, fun acc h1 h2 => ?_⟩
    simp only [List.length_nil] at h2
    omega
  | succ n ih =>
    intro q a acc' hn h g hz
    have hb := bg_sfx h
    have gb := bg_sfx g
    rw [SK_ext y hy _ q (Nat.le_refl _)] at gb
    have hs := h.size
    have gs := g.size
    have hbs := hb.size
    cases hr : SK q with
    | nil =>
      rw [hr, wl_nil] at hbs
      refine ⟨[], by rw [tokH_end _ (by omega)]; simp, fun acc h1 h2 => ?_⟩
      simp only [List.length_nil] at h2
      omega
    | cons c r =>
      rw [hr] at hb hbs
      rw [hr, if_neg (by simp)] at gb
      have gbs := gb.size
      have hw := wr_pos c
      rw [wl_cons] at hbs
      rw [wl_app, wl_cons] at gbs
      rw [wl_app] at gs
      have epos : bg S (a + d) = bg s a + d := by omega
      have hlt : bg s a < s.size := by omega
      obtain ⟨z1, z2⟩ := tokH_ok hlt hz
      rw [tokH_go hlt z1 z2] at hz ⊢
      rw [epos] at gb ⊢
      have hsame := red_same (by simp) hy hb gb z1
      obtain ⟨m, q', em, hm, hp⟩ := red_sfx (by simp) hb z1
      have hb' : Sfx s q' (redR s (bg s a)).2.1 := by rw [hp]; rw [em] at hb; exact hb.drop
      have gb' : Sfx S (q' ++ y) ((redR s (bg s a)).2.1 + d) := by
        rw [em, List.append_assoc] at gb
        have := gb.drop
        rw [hp]
        rwa [show bg s a + d + wl m = bg s a + wl m + d by omega] at this
      have hl : q'.length ≤ n := by
        have h1 := SK_len q
        rw [hr, em, List.length_append] at h1
        have := List.length_pos_iff.2 hm
        omega
      obtain ⟨R, e1, e2⟩ := ih q' _ _ hl hb' gb' hz
      refine ⟨(redR s (bg s a)).1 :: R, by rw [e1]; simp, fun acc h1 h2 => ?_⟩
      rw [List.length_cons] at h2
      have hz2 : (redR S (bg s a + d)).2.2 = 0 := by rw [hsame]; exact z1
      have hlt2 : bg s a + d < S.size := by omega
      by_cases h4 : acc.length = 4096
      · rw [tokH_full hlt2 hz2 h4]
      · rw [tokH_go hlt2 hz2 h4, hsame]
        exact e2 (acc ++ [shT d (redR s (bg s a)).1]) (by rw [List.length_append]; simp; omega) (by rw [List.length_append]; simp; omega)
theorem joins_over {s t : ByteArray} (h1 : (tokR s).2.2 = 0) (h2 : (tokR t).2.2 = 0) (hz : s.size + t.size < 65536) (hn : 4096 < (tokR s).1.length + (tokR t).1.length) : (tokR (s ++ ⟨#[10]⟩ ++ t)).2.2 = 11 := by
  obtain ⟨_, l, hl, e1⟩ := tokR_ok h1
  obtain ⟨z2, x, hx, e2⟩ := tokR_ok h2
  have e : s ++ ⟨#[10]⟩ ++ t = tx (l ++ 10 :: x) := by
    rw [e1, e2, show (⟨#[10]⟩ : ByteArray) = tx [10] from rfl, tx_app, tx_app, List.append_assoc]
    rfl
  have ht : t.size = wl x := by rw [e2, tx_size]
  have hs : s.size = wl l := by rw [e1, tx_size]
  have hm := tok_more hl hx e1 h1 (by omega)
  rw [e, hm]
  have hv : VL (l ++ 10 :: x) := by
    intro c hc
    rcases List.mem_append.1 hc with hc | hc
    · exact hl c hc
    · rcases List.mem_cons.1 hc with rfl | hc
      · exact .inl (by decide)
      · exact hx c hc
  have e3 : tokR t = tokH t (bg t 0) [] := by
    rw [e2]
    exact tokR_h (by rw [← e2]; exact z2) (stR_tx hx)
  have gx : Sfx (tx (l ++ 10 :: x)) (x ++ []) (0 + (s.size + 1)) := by
    have : Sfx (tx (l ++ 10 :: x)) (l ++ 10 :: x) 0 := sfx_all hv
    have := this.drop.tail
    rw [List.append_nil, Nat.zero_add, hs]
    rwa [Nat.zero_add, show wr 10 = 1 from rfl] at this
  rw [e3] at h2 hn
  obtain ⟨R, r1, r2⟩ := tok_over (d := s.size + 1) (.inl rfl) x.length x 0 [] (Nat.le_refl _) (by rw [e2]; exact sfx_all hx) gx h2
  rw [List.nil_append] at r1
  rw [r1] at hn
  have := r2 (tokR s).1 (tokR_len s) hn
  rw [Nat.zero_add] at this
  exact this
theorem joins_size {s t : ByteArray} (hz : 65536 ≤ s.size + t.size) : (tokR (s ++ ⟨#[10]⟩ ++ t)).2.2 = 11 := by
  have : (s ++ ⟨#[10]⟩ ++ t).size = s.size + 1 + t.size := by rw [ByteArray.size_append, ByteArray.size_append]; rfl
  unfold tokR
  rw [if_pos (by omega)]
/-- a reader gives up for a reason -/
theorem prs_err (n : Int) : ∀ f m q o z a e, prs n f m q o z = .error (a, e) → z ≤ 1024 → 3 * q.length + 1 + min m 2 ≤ f → e = 9 ∨ e = 11 := by
  intro f
  induction f with
  | zero => intro m q o z a e h _ hf; omega
  | succ f ih =>
    intro m q o z a e h hz hf
    match m with
    | 0 =>
      cases q with
      | nil => simp only [prs, Except.error.injEq, Prod.mk.injEq] at h; omega
      | cons t q =>
        simp only [prs] at h
        simp only [List.length_cons] at hf
        repeat' split at h
        all_goals first
          | (simp only [Except.error.injEq, Prod.mk.injEq] at h; omega)
          | (simp at h; done)
          | skip
        all_goals
          rename_i hp
          simp only [Except.error.injEq] at h
          subst h
          exact ih _ _ _ _ _ _ hp (by omega) (by omega)
    | 1 =>
      cases q with
      | nil => simp only [prs, Except.error.injEq, Prod.mk.injEq] at h; omega
      | cons t q =>
        simp only [prs] at h
        repeat' split at h
        · simp only [Except.error.injEq, Prod.mk.injEq] at h; omega
        · simp at h
        · exact ih _ _ _ _ _ _ h hz (by omega)
    | m + 2 =>
      cases q with
      | nil => simp only [prs, Except.error.injEq, Prod.mk.injEq] at h; omega
      | cons t q =>
        simp only [prs] at h
        split at h
        · simp at h
        · split at h
          · rename_i e' hp
            simp only [Except.error.injEq] at h
            subst h
            exact ih _ _ _ _ _ _ hp hz (by omega)
          · rename_i l1 r1 z1 hp
            have h1 := prs_ok n _ _ _ _ _ _ _ _ hp hz
            split at h
            · rename_i e' hp2
              simp only [Except.error.injEq] at h
              subst h
              exact ih _ _ _ _ _ _ hp2 (by omega) (by omega)
            · simp at h
theorem sdR_err (n : Int) (w : ByteArray) : ∀ (k : Nat) (q : List Tok) (a e : Int), sdR n w k q = .error (a, e) → e = 9 ∨ e = 11
  | k, [], a, e, h => by simp only [sdR, Except.error.injEq, Prod.mk.injEq] at h; omega
  | k, t :: q, a, e, h => by
    simp only [sdR] at h
    repeat' split at h
    · simp at h
    · simp only [Except.error.injEq, Prod.mk.injEq] at h; omega
    · exact sdR_err n w (k + 1) q a e h
    · simp only [Except.error.injEq, Prod.mk.injEq] at h; omega
end Go.Proofs.YtapehdolnljnoaaDoor
namespace Go.Proofs.YtapehdolnljnoaaDoor
open Go.RowKit
set_option linter.unusedSimpArgs false
set_option linter.unusedVariables false
/-- a form whose lists are small -/
def Wff (fm : Fm) : Prop := fm.b.length ≤ 4096 ∧ (∃ e, WfT e (bdT fm)) ∧ ∃ e, WfT e fm.it
theorem wf_no : WfT 1 noT := ⟨Nat.zero_le _, fun x hx => by simp [noT] at hx⟩
theorem Wff.wfm {fm : Fm} (h : Wff fm) : Wfm fm := by
  obtain ⟨h1, ⟨e, h2⟩, h3⟩ := h
  refine ⟨h1, fun x hx => ?_, fun _ => h3⟩
  cases e with
  | zero => exact h2.elim
  | succ e => exact ⟨e, h2.2 x hx⟩
theorem dfR_wf {n : Int} {f : Nat} {q : List Tok} {o z : Int} {fm : Fm} {r : List Tok} {z' : Int} (hz : z ≤ 1024) (hq : q.length ≤ 4096) (h : dfR n f q o z = .ok (fm, r, z')) : Wff fm := by
  cases q with
  | nil => simp [dfR] at h
  | cons t0 q1 =>
    simp only [dfR] at h
    split at h
    · simp at h
    · rename_i hf
      cases q1 with
      | nil => simp [dfN] at h
      | cons t1 q2 =>
        simp only [dfN] at h
        split at h
        · simp at h
        · cases q2 with
          | nil => simp [dfQ] at h
          | cons t2 q3 =>
            simp only [dfQ] at h
            split at h
            · simp at h
            · unfold dfA at h
              split at h
              · simp at h
              · rename_i i q4 h4
                unfold dfB at h
                split at h
                · simp at h
                · rename_i j q5 h5
                  unfold dfC at h
                  split at h
                  · simp at h
                  · rename_i l q6 z6 h6
                    simp only [Except.ok.injEq, Prod.mk.injEq] at h
                    obtain ⟨rfl, _, _⟩ := h
                    have a4 := (sdR_len n _ _ _ _ _ h4).1
                    have a5 := (sdR_len n _ _ _ _ _ h5).1
                    have a6 := prs_ok n _ _ _ _ _ _ _ _ h6 (by omega)
                    simp only [List.length_cons] at hq
                    have a7 := prs_wf n _ _ _ _ _ _ _ _ h6 (by omega) (by omega)
                    exact ⟨by dsimp only; omega, ⟨f + 1, by dsimp only [bdT]; omega, a7⟩, ⟨1, wf_no⟩⟩
theorem fmR_wf {n : Int} {f : Nat} {q : List Tok} {o z : Int} {fm : Fm} {r : List Tok} {z' : Int} (hz : z ≤ 1024) (hq : q.length ≤ 4096) (h : fmR n f q o z = .ok (fm, r, z')) : Wff fm := by
  cases q with
  | nil => simp [fmR] at h
  | cons t q =>
    simp only [fmR] at h
    split at h
    · exact dfR_wf hz hq h
    · split at h
      · simp at h
      · rename_i l q' z'' hp
        simp only [Except.ok.injEq, Prod.mk.injEq] at h
        obtain ⟨rfl, _, _⟩ := h
        have a6 := (prs_ok n _ _ _ _ _ _ _ _ hp hz).2.2.2.1 (by omega)
        have a7 := prs_wf n _ _ _ _ _ _ _ _ hp hz hq
        match l, a6 with
        | [x], _ => exact ⟨Nat.zero_le _, ⟨1, Nat.zero_le _, fun x hx => by simp [bdT] at hx⟩, ⟨f, a7 x (by simp)⟩⟩
theorem alR_wf (n : Int) (F : Nat) : ∀ (g : Nat) (q : List Tok) (l : List Fm), q.length ≤ 4096 → alR n F g q = .ok l → l.length ≤ q.length ∧ ∀ fm ∈ l, Wff fm
  | 0, _, _, _, h => by simp [alR] at h
  | g + 1, [], l, _, h => by
    simp only [alR, Except.ok.injEq] at h
    subst h
    exact ⟨Nat.le_refl _, fun fm hf => by simp at hf⟩
  | g + 1, t :: r, l, hl, h => by
    simp only [alR] at h
    cases hf : fmR n F (t :: r) 0 0 with
    | error e => rw [hf] at h; simp at h
    | ok p =>
      obtain ⟨fm, q, z⟩ := p
      rw [hf] at h
      dsimp only at h
      cases ha : alR n F g q with
      | error e => rw [ha] at h; simp at h
      | ok l1 =>
        rw [ha] at h
        simp only [Except.ok.injEq] at h
        subst h
        have h1 := fmR_len (by omega) hf
        have h2 := fmR_wf (by omega) hl hf
        obtain ⟨h3, h4⟩ := alR_wf n F g q l1 (by omega) ha
        refine ⟨by simp only [List.length_cons] at *; omega, fun x hx => ?_⟩
        rcases List.mem_cons.1 hx with rfl | hx
        · exact h2
        · exact h4 x hx
theorem dfR_err {n : Int} {f : Nat} {q : List Tok} {o z : Int} {a e : Int} (hz : z ≤ 1024) (hf : 3 * q.length + 3 ≤ f) (h : dfR n f q o z = .error (a, e)) : e = 9 ∨ e = 11 := by
  cases q with
  | nil => simp only [dfR, Except.error.injEq, Prod.mk.injEq] at h; omega
  | cons t0 q1 =>
    simp only [dfR] at h
    simp only [List.length_cons] at hf
    split at h
    · simp only [Except.error.injEq, Prod.mk.injEq] at h; omega
    · cases q1 with
      | nil => simp only [dfN, Except.error.injEq, Prod.mk.injEq] at h; omega
      | cons t1 q2 =>
        simp only [dfN] at h
        split at h
        · simp only [Except.error.injEq, Prod.mk.injEq] at h; omega
        · cases q2 with
          | nil => simp only [dfQ, Except.error.injEq, Prod.mk.injEq] at h; omega
          | cons t2 q3 =>
            simp only [dfQ] at h
            simp only [List.length_cons] at hf
            split at h
            · simp only [Except.error.injEq, Prod.mk.injEq] at h; omega
            · unfold dfA at h
              split at h
              · rename_i e' h4
                simp only [Except.error.injEq] at h
                subst h
                exact sdR_err n _ _ _ _ _ h4
              · rename_i i q4 h4
                unfold dfB at h
                split at h
                · rename_i e' h5
                  simp only [Except.error.injEq] at h
                  subst h
                  exact sdR_err n _ _ _ _ _ h5
                · rename_i j q5 h5
                  unfold dfC at h
                  have a4 := (sdR_len n _ _ _ _ _ h4).1
                  have a5 := (sdR_len n _ _ _ _ _ h5).1
                  split at h
                  · rename_i e' h6
                    simp only [Except.error.injEq] at h
                    subst h
                    exact prs_err n _ _ _ _ _ _ _ h6 (by omega) (by omega)
                  · simp at h
theorem fmR_err {n : Int} {f : Nat} {q : List Tok} {o z : Int} {a e : Int} (hz : z ≤ 1024) (hf : 3 * q.length + 3 ≤ f) (h : fmR n f q o z = .error (a, e)) : e = 9 ∨ e = 11 := by
  cases q with
  | nil => simp only [fmR, Except.error.injEq, Prod.mk.injEq] at h; omega
  | cons t q =>
    simp only [fmR] at h
    split at h
    · exact dfR_err hz hf h
    · split at h
      · rename_i e' hp
        simp only [Except.error.injEq] at h
        subst h
        exact prs_err n _ _ _ _ _ _ _ hp hz (by omega)
      · simp at h
theorem alR_err (n : Int) (F : Nat) : ∀ (g : Nat) (q : List Tok) (a e : Int), q.length < g → 3 * q.length + 3 ≤ F → alR n F g q = .error (a, e) → e = 9 ∨ e = 11
  | 0, _, _, _, h, _, _ => by omega
  | g + 1, [], a, e, _, _, h => by simp [alR] at h
  | g + 1, t :: r, a, e, hl, hF, h => by
    simp only [alR] at h
    cases hf : fmR n F (t :: r) 0 0 with
    | error p =>
      rw [hf] at h
      simp only [Except.error.injEq] at h
      subst h
      exact fmR_err (by omega) hF hf
    | ok p =>
      obtain ⟨fm, q, z⟩ := p
      have h1 := fmR_len (by omega) hf
      rw [hf] at h
      dsimp only at h
      simp only [List.length_cons] at hl hF h1
      cases ha : alR n F g q with
      | error p =>
        rw [ha] at h
        simp only [Except.error.injEq] at h
        subst h
        exact alR_err n F g q a e (by omega) (by omega) ha
      | ok l1 => rw [ha] at h; simp at h
/-- a source that is read -/
theorem parR_ok {s : ByteArray} (h : (parR s).2.2 = 0) : (tokR s).2.2 = 0 ∧ alR (s.size : Int) 12400 ((tokR s).1.length + 1) (tokR s).1 = .ok (parR s).1 ∧ (parR s).2.1 = 0 := by
  unfold parR at h ⊢
  by_cases h0 : (tokR s).2.2 = 0
  · rw [if_pos h0] at h ⊢
    cases ha : alR (s.size : Int) 12400 ((tokR s).1.length + 1) (tokR s).1 with
    | error p =>
      obtain ⟨a, e⟩ := p
      rw [ha] at h
      have := alR_err _ _ _ _ a e (by omega) (by have := tokR_len s; omega) ha
      dsimp only at h
      omega
    | ok l => exact ⟨h0, rfl, rfl⟩
  · rw [if_neg h0] at h
    exact absurd h h0
theorem parR_bad {s : ByteArray} (h : ¬ (parR s).2.2 = 0) : (parR s).1 = [] := by
  unfold parR at h ⊢
  split
  · rename_i h0
    rw [if_pos h0] at h
    cases ha : alR (s.size : Int) 12400 ((tokR s).1.length + 1) (tokR s).1 with
    | error p => rfl
    | ok l => rw [ha] at h; exact absurd rfl h
  · rfl
theorem parR_wf {s : ByteArray} : (parR s).1.length ≤ 4096 ∧ ∀ fm ∈ (parR s).1, Wff fm := by
  by_cases h : (parR s).2.2 = 0
  · obtain ⟨h0, h1, _⟩ := parR_ok h
    have hl := tokR_len s
    obtain ⟨h2, h3⟩ := alR_wf _ _ _ _ _ hl h1
    exact ⟨by omega, h3⟩
  · rw [parR_bad h]
    exact ⟨Nat.zero_le _, fun fm hf => by simp at hf⟩
/-- two sources, one on each line -/
theorem pjoin {s t : ByteArray} (h1 : (parR s).2.2 = 0) (h2 : (parR t).2.2 = 0) :
    ((s.size + t.size < 65536 ∧ (tokR s).1.length + (tokR t).1.length ≤ 4096) ∧ parR (s ++ ⟨#[10]⟩ ++ t) = ((parR s).1 ++ (parR t).1, 0, 0)) ∨ ((65536 ≤ s.size + t.size ∨ 4096 < (tokR s).1.length + (tokR t).1.length) ∧ (parR (s ++ ⟨#[10]⟩ ++ t)).2.2 = 11) := by
  obtain ⟨a1, a2, _⟩ := parR_ok h1
  obtain ⟨b1, b2, _⟩ := parR_ok h2
  have bad : (tokR (s ++ ⟨#[10]⟩ ++ t)).2.2 = 11 → (parR (s ++ ⟨#[10]⟩ ++ t)).2.2 = 11 := by
    intro h
    unfold parR
    rw [if_neg (by rw [h]; omega)]
    exact h
  by_cases hz : s.size + t.size < 65536
  · by_cases hn : (tokR s).1.length + (tokR t).1.length ≤ 4096
    · refine .inl ⟨⟨hz, hn⟩, ?_⟩
      have hj := joins_pure a1 b1 hz hn
      obtain ⟨J, hJ⟩ : ∃ J, J = s ++ ⟨#[10]⟩ ++ t := ⟨_, rfl⟩
      rw [← hJ] at hj ⊢
      have hB : alR (J.size : Int) 12400 ((tokR t).1.length + 1) ((tokR t).1.map (shT (s.size + 1))) = .ok (parR t).1 := by
        have := alR_join (t.size : Int) (J.size : Int) 12400 (s.size + 1) [] [] 1 rfl (by simp) ((tokR t).1.length + 1) (tokR t).1 (parR t).1 (by omega) b2
        rw [List.append_nil, List.append_nil] at this
        rw [← this]
        exact alR_fuel _ _ _ _ _ (by simp) (by simp; omega)
      have hA := alR_join (s.size : Int) (J.size : Int) 12400 0 ((tokR t).1.map (shT (s.size + 1))) (parR t).1 ((tokR t).1.length + 1) hB (by simp) ((tokR s).1.length + 1) (tokR s).1 (parR s).1 (by omega) a2
      rw [sh_map0] at hA
      have hC : alR (J.size : Int) 12400 (((tokR s).1 ++ (tokR t).1.map (shT (s.size + 1))).length + 1) ((tokR s).1 ++ (tokR t).1.map (shT (s.size + 1))) = .ok ((parR s).1 ++ (parR t).1) := by
        rw [← hA]
        exact alR_fuel _ _ _ _ _ (by omega) (by simp; omega)
      unfold parR at hC ⊢
      rw [hj]
      dsimp only
      rw [if_pos rfl, hC]
    · exact .inr ⟨.inr (by omega), bad (joins_over a1 b1 hz (by omega))⟩
  · exact .inr ⟨.inl (by omega), bad (joins_size (by omega))⟩
end Go.Proofs.YtapehdolnljnoaaDoor
namespace Go.Proofs.YtapehdolnljnoaaDoor
open Go.RowKit
set_option linter.unusedSimpArgs false
set_option linter.unusedVariables false
theorem colon_err (n : Int) (f : Nat) (t : Tok) (r : List Tok) (o z : Int) (h : isB t ⟨#[58]⟩ = true) : prs n (f + 2) 1 (t :: r) o z = .error (t.a, 9) := by
  obtain ⟨tk, tt, tn, ta⟩ := t
  simp only [isB, Bool.and_eq_true, beq_iff_eq] at h
  obtain ⟨h1, h2⟩ := h
  have e : tt.toList = [58] := by rw [h2]; kernel_rfl
  have hn : nmB ⟨tk, tt, tn, ta⟩ = false := by simp [nmB, resB, e]
  subst h1
  simp only [prs]
  rw [if_neg (by rw [hn]; simp), if_neg (by omega), if_neg (by omega), if_neg (by rw [e]; simp), if_neg (by rw [e]; simp), if_neg (by rw [e]; simp), if_neg (by rw [e]; simp)]
theorem items_of (n : Int) (F : Nat) : ∀ (g : Nat) (q : List Tok) (l : List Fm), alR n (F + 2) g q = .ok l → ((∀ fm ∈ l, fm.d = false) → alI n (F + 2) g q = .ok (l.map Fm.it)) ∧ ((∃ fm ∈ l, fm.d = true) → ∃ a, alI n (F + 2) g q = .error (a, 9))
  | 0, _, _, h => by simp [alR] at h
  | g + 1, [], l, h => by
    simp only [alR, Except.ok.injEq] at h
    subst h
    exact ⟨fun _ => rfl, fun ⟨fm, hf, _⟩ => by simp at hf⟩
  | g + 1, t :: r, l, h => by
    simp only [alR] at h
    cases hf : fmR n (F + 2) (t :: r) 0 0 with
    | error e => rw [hf] at h; simp at h
    | ok p =>
      obtain ⟨fm, q, z⟩ := p
      rw [hf] at h
      dsimp only at h
      cases ha : alR n (F + 2) g q with
      | error e => rw [ha] at h; simp at h
      | ok l1 =>
        rw [ha] at h
        simp only [Except.ok.injEq] at h
        subst h
        obtain ⟨i1, i2⟩ := items_of n F g q l1 ha
        simp only [fmR] at hf
        by_cases hb : isB t ⟨#[58]⟩ = true
        · rw [if_pos hb] at hf
          have hd := (dfR_d hf).1
          refine ⟨fun hall => ?_, fun _ => ⟨t.a, ?_⟩⟩
          · have := hall fm (by simp)
            rw [hd] at this
            simp at this
          · simp only [alI]
            rw [colon_err n F t r 0 0 hb]
        · rw [if_neg hb] at hf
          cases hp : prs n (F + 2) 1 (t :: r) 0 0 with
          | error e => rw [hp] at hf; simp at hf
          | ok p =>
            obtain ⟨lx, qx, zx⟩ := p
            rw [hp] at hf
            simp only [Except.ok.injEq, Prod.mk.injEq] at hf
            obtain ⟨rfl, rfl, rfl⟩ := hf
            have hl := (prs_ok _ _ _ _ _ _ _ _ _ hp (by omega)).2.2.2.1 (by omega)
            match lx, hl with
            | [x], _ =>
              refine ⟨fun hall => ?_, fun hex => ?_⟩
              · simp only [alI]
                rw [hp]
                dsimp only
                rw [i1 (fun fm hfm => hall fm (by simp [hfm]))]
                rfl
              · obtain ⟨fm, hfm, hd⟩ := hex
                rcases List.mem_cons.1 hfm with rfl | hfm
                · simp at hd
                · obtain ⟨a, hi⟩ := i2 ⟨fm, hfm, hd⟩
                  refine ⟨a, ?_⟩
                  simp only [alI]
                  rw [hp]
                  dsimp only
                  rw [hi]
/-- items alone are items of a source -/
theorem parI_of {s : ByteArray} (h : (parR s).2.2 = 0) : ((∀ fm ∈ (parR s).1, fm.d = false) → parI s = ((parR s).1.map Fm.it, 0, 0)) ∧ ((∃ fm ∈ (parR s).1, fm.d = true) → (parI s).2.2 = 9) := by
  obtain ⟨h0, h1, _⟩ := parR_ok h
  obtain ⟨i1, i2⟩ := items_of (s.size : Int) 12398 _ _ _ h1
  refine ⟨fun hall => ?_, fun hex => ?_⟩
  · have := i1 hall
    unfold parI
    rw [if_pos h0, this]
  · obtain ⟨a, hi⟩ := i2 hex
    unfold parI
    rw [if_pos h0, hi]
end Go.Proofs.YtapehdolnljnoaaDoor
namespace Go.Proofs.YtapehdolnljnoaaDoor
open Go.RowKit
set_option linter.unusedSimpArgs false
set_option linter.unusedVariables false
/-- what a token of a source holds -/
def TkG (t : Tok) : Prop := (t.k = 1 → nameB t.t = true ∧ t.t.size ≤ 65536) ∧ (t.k = 2 → -1152921504606846976 ≤ t.n ∧ t.n ≤ 1152921504606846975) ∧ (t.k = 3 → t.t.size ≤ 4096 ∧ ¬ stR t.t < t.t.size)
theorem numR_in {b : ByteArray} (h : (numR b).2 = 0) : -1152921504606846976 ≤ (numR b).1 ∧ (numR b).1 ≤ 1152921504606846975 := by
  unfold numR at h ⊢
  split at h
  · simp at h
  · rw [if_neg (by assumption)]
    split at h
    · rw [if_pos (by assumption)]
      rename_i g
      obtain ⟨_, g⟩ := g
      constructor <;> dsimp only <;> omega
    · rw [if_neg (by assumption)]
      split at h
      · rw [if_pos (by assumption)]
        rename_i g
        obtain ⟨_, g⟩ := g
        constructor <;> dsimp only <;> omega
      · simp at h
theorem crs_vr (s : ByteArray) : ∀ (b pos : Nat) (p : Nat × Nat), p ∈ crs s b pos → Vr p.2
  | 0, pos, p, h => by simp [crs] at h
  | b + 1, pos, p, h => by
    unfold crs at h
    split at h
    · rcases List.mem_cons.1 h with rfl | h
      · exact decode_vr s pos
      · exact crs_vr s b _ p h
    · simp at h
theorem strG_good (a n : Nat) : ∀ (l : List (Nat × Nat)) (e : Bool) (out : List Nat), (∀ p ∈ l, Vr p.2) → VL out → (strG a n l e out).2.2 = 0 → (strG a n l e out).1.t.size ≤ 4096 ∧ ∃ q, VL q ∧ (strG a n l e out).1.t = tx q
  | [], true, out => by intro _ _ h; simp [strG] at h
  | [], false, out => by intro _ _ h; simp [strG] at h
  | (i, c) :: r, true, out => by
    simp only [strG]
    intro hl ho
    cases hu : une c with
    | none => intro h; simp at h
    | some m =>
      exact strG_good a n r _ _ (fun p hp => hl p (by simp [hp])) (fun x hx => by
        rcases List.mem_append.1 hx with hx | hx
        · exact ho x hx
        · simp only [List.mem_singleton] at hx; rw [hx]; exact une_vr hu)
  | (i, c) :: r, false, out => by
    simp only [strG]
    intro hl ho
    split
    · exact strG_good a n r _ _ (fun p hp => hl p (by simp [hp])) ho
    · split
      · split
        · intro h; simp at h
        · rename_i g
          intro _
          exact ⟨by show (enL out).toArray.size ≤ 4096; simp; omega, out, ho, rfl⟩
      · exact strG_good a n r _ _ (fun p hp => hl p (by simp [hp])) (fun x hx => by
          rcases List.mem_append.1 hx with hx | hx
          · exact ho x hx
          · simp only [List.mem_singleton] at hx; rw [hx]; exact hl (i, c) (by simp))
theorem tkg_str (t : Tok) (h1 : t.k = 3) (h2 : t.t.size ≤ 4096) (h3 : ¬ stR t.t < t.t.size) : TkG t :=
  ⟨fun g => by omega, fun g => by omega, fun _ => ⟨h2, h3⟩⟩
theorem tkg_num (t : ByteArray) (n a : Int) (h : -1152921504606846976 ≤ n ∧ n ≤ 1152921504606846975) : TkG ⟨2, t, n, a⟩ :=
  ⟨fun g => by simp at g, fun _ => h, fun g => by simp at g⟩
theorem tkg_wrd (t : ByteArray) (n a : Int) (h : nameB t = true ∧ t.size ≤ 65536) : TkG ⟨1, t, n, a⟩ :=
  ⟨fun _ => h, fun g => by simp at g, fun g => by simp at g⟩
theorem red_good {s : ByteArray} {a : Nat} (hs : s.size ≤ 65536) (h : (redR s a).2.2 = 0) : TkG (redR s a).1 := by
  unfold redR at h ⊢
  split at h
  · rw [if_pos (by assumption)]
    have hk := strG_kind a s.size _ _ _ h
    obtain ⟨h1, q, h2, h3⟩ := strG_good a s.size _ _ _ (fun p hp => crs_vr _ _ _ p hp) (fun x hx => by simp at hx) h
    have e : (strR s a).1.t = tx q := h3
    have h4 : ¬ stR (strR s a).1.t < (strR s a).1.t.size := by
      rw [e]
      exact stR_tx h2
    exact tkg_str (strR s a).1 hk.1 h1 h4
  · rw [if_neg (by assumption)]
    unfold wrdR at h ⊢
    dsimp only at h ⊢
    split at h
    · rename_i g
      rw [if_pos g]
      exact tkg_num _ _ _ (numR_in g)
    · rename_i g0
      rw [if_neg g0]
      split at h
      · simp at h
      · rename_i g1
        rw [if_neg g1]
        split at h
        · simp at h
        · rename_i g2
          rw [if_neg g2]
          refine tkg_wrd _ _ _ ⟨?_, ?_⟩
          · have h9 : (numR (s.extract a (fnd (fun c => blk c) s a))).2 = 9 := by
              rcases numR_three (s.extract a (fnd (fun c => blk c) s a)) with g | g | g
              · exact absurd g g0
              · exact g
              · exact absurd g g1
            show nameB (s.extract a (fnd (fun c => blk c) s a)) = true
            unfold nameB
            rw [h9]
            simpa using g2
          · show (s.extract a _).size ≤ 65536
            rw [ByteArray.size_extract]
            omega
theorem tokG_good (s : ByteArray) (hs : s.size ≤ 65536) : ∀ (f a : Nat) (acc : List Tok), (∀ t ∈ acc, TkG t) → ∀ t ∈ (tokG s f a acc).1, TkG t
  | 0, a, acc, h => by simpa [tokG] using h
  | f + 1, a, acc, h => by
    unfold tokG
    split
    · split
      · split
        · intro t ht; simp at ht
        · exact tokG_good s hs f _ _ (fun t ht => by
            rcases List.mem_append.1 ht with ht | ht
            · exact h t ht
            · simp only [List.mem_singleton] at ht; subst ht; exact red_good hs (by assumption))
      · intro t ht; simp at ht
    · exact h
theorem tokR_good (s : ByteArray) : ∀ t ∈ (tokR s).1, TkG t := by
  unfold tokR
  split
  · intro t ht; simp at ht
  · split
    · intro t ht; simp at ht
    · exact tokG_good s (by omega) _ _ _ (fun t ht => by simp at ht)
/-- a tree whose leaves are sound: no box, names that may be called, numbers and texts within their limits -/
def LfG (t : Tre) : Prop := (t.k = 1 ∧ -1152921504606846976 ≤ t.n ∧ t.n ≤ 1152921504606846975) ∨ (t.k = 2 ∧ t.s.size ≤ 4096 ∧ ¬ stR t.s < t.s.size) ∨ (t.k = 3 ∧ (t.n = 0 ∨ t.n = 1)) ∨ (t.k = 7 ∧ nameB t.s = true ∧ resB t.s = false ∧ t.s.size ≤ 65536) ∨ t.k = 4 ∨ t.k = 5
def TrG : Nat → Tre → Prop
  | 0, _ => False
  | d + 1, t => LfG t ∧ ∀ x ∈ t.l, TrG d x ∧ (t.k = 4 → x.k ≠ 7)
theorem TrG.mono : ∀ {d d' : Nat} {t : Tre}, d ≤ d' → TrG d t → TrG d' t
  | 0, _, _, _, h => h.elim
  | d + 1, 0, t, hd, h => by omega
  | d + 1, e + 1, t, hd, h => ⟨h.1, fun x hx => ⟨(h.2 x hx).1.mono (by omega), (h.2 x hx).2⟩⟩
/-- what is left of sound tokens is sound, and what is read of them, too; behind {, no call -/
theorem prs_good (n : Int) : ∀ f m q o z l r z', prs n f m q o z = .ok (l, r, z') → (∀ t ∈ q, TkG t) → (∀ t ∈ r, t ∈ q) ∧ ∀ x ∈ l, TrG f x ∧ (m = 0 ∨ m = 2 → x.k ≠ 7) := by
  intro f
  induction f with
  | zero => intro m q o z l r z' h; simp [prs] at h
  | succ f ih =>
    intro m q o z l r z' h hq
    match m with
    | 0 =>
      cases q with
      | nil => simp [prs] at h
      | cons t q =>
        simp only [prs] at h
        have ht := hq t (by simp)
        have sub : ∀ y ∈ q, y ∈ t :: q := fun y hy => by simp [hy]
        have leaf : ∀ y : Tre, y.l = [] → LfG y → y.k ≠ 7 → ∀ x ∈ [y], TrG (f + 1) x ∧ (0 = 0 ∨ 0 = 2 → x.k ≠ 7) := fun y h1 h2 h3 x hx => by
          simp only [List.mem_cons, List.not_mem_nil, or_false] at hx
          subst hx
          exact ⟨⟨h2, fun z hz => by rw [h1] at hz; simp at hz⟩, fun _ => h3⟩
        repeat' split at h
        all_goals first
          | (simp at h; done)
          | skip
        · rename_i h2 _
          simp only [Except.ok.injEq, Prod.mk.injEq] at h; obtain ⟨rfl, rfl, rfl⟩ := h
          exact ⟨sub, leaf _ rfl (.inl ⟨rfl, ht.2.1 h2⟩) (by simp)⟩
        · rename_i h3 _
          simp only [Except.ok.injEq, Prod.mk.injEq] at h; obtain ⟨rfl, rfl, rfl⟩ := h
          exact ⟨sub, leaf _ rfl (.inr (.inl ⟨rfl, ht.2.2 h3⟩)) (by simp)⟩
        · simp only [Except.ok.injEq, Prod.mk.injEq] at h; obtain ⟨rfl, rfl, rfl⟩ := h
          exact ⟨sub, leaf _ rfl (.inr (.inr (.inl ⟨rfl, .inr rfl⟩))) (by simp)⟩
        · simp only [Except.ok.injEq, Prod.mk.injEq] at h; obtain ⟨rfl, rfl, rfl⟩ := h
          exact ⟨sub, leaf _ rfl (.inr (.inr (.inl ⟨rfl, .inl rfl⟩))) (by simp)⟩
        · rename_i hp
          simp only [Except.ok.injEq, Prod.mk.injEq] at h; obtain ⟨rfl, rfl, rfl⟩ := h
          obtain ⟨i1, i2⟩ := ih _ _ _ _ _ _ _ hp (fun y hy => hq y (sub y hy))
          refine ⟨fun y hy => sub y (i1 y hy), fun x hx => ?_⟩
          simp only [List.mem_cons, List.not_mem_nil, or_false] at hx
          subst hx
          exact ⟨⟨.inr (.inr (.inr (.inr (.inr rfl)))), fun y hy => ⟨(i2 y hy).1, fun g => by simp at g⟩⟩, fun _ => by simp⟩
        · rename_i hp
          simp only [Except.ok.injEq, Prod.mk.injEq] at h; obtain ⟨rfl, rfl, rfl⟩ := h
          obtain ⟨i1, i2⟩ := ih _ _ _ _ _ _ _ hp (fun y hy => hq y (sub y hy))
          refine ⟨fun y hy => sub y (i1 y hy), fun x hx => ?_⟩
          simp only [List.mem_cons, List.not_mem_nil, or_false] at hx
          subst hx
          exact ⟨⟨.inr (.inr (.inr (.inr (.inl rfl)))), fun y hy => ⟨(i2 y hy).1, fun _ => (i2 y hy).2 (.inr rfl)⟩⟩, fun _ => by simp⟩
    | 1 =>
      cases q with
      | nil => simp [prs] at h
      | cons t q =>
        simp only [prs] at h
        have ht := hq t (by simp)
        split at h
        · rename_i hn
          split at h
          · simp at h
          · simp only [Except.ok.injEq, Prod.mk.injEq] at h; obtain ⟨rfl, rfl, rfl⟩ := h
            refine ⟨fun y hy => by simp [hy], fun x hx => ?_⟩
            simp only [List.mem_cons, List.not_mem_nil, or_false] at hx
            subst hx
            simp only [nmB, Bool.and_eq_true, beq_iff_eq, Bool.not_eq_true'] at hn
            exact ⟨⟨.inr (.inr (.inr (.inl ⟨rfl, (ht.1 hn.1).1, hn.2, (ht.1 hn.1).2⟩))), fun z hz => by simp at hz⟩, fun g => by simp at g⟩
        · obtain ⟨i1, i2⟩ := ih _ _ _ _ _ _ _ h hq
          exact ⟨i1, fun x hx => ⟨(i2 x hx).1.mono (by omega), fun g => by simp at g⟩⟩
    | m + 2 =>
      cases q with
      | nil => simp [prs] at h
      | cons t q =>
        simp only [prs] at h
        split at h
        · simp only [Except.ok.injEq, Prod.mk.injEq] at h; obtain ⟨rfl, rfl, rfl⟩ := h
          exact ⟨fun y hy => by simp [hy], fun x hx => by simp at hx⟩
        · split at h
          · simp at h
          · rename_i l1 r1 z1 hp
            split at h
            · simp at h
            · rename_i l2 r2 z2 hp2
              simp only [Except.ok.injEq, Prod.mk.injEq] at h; obtain ⟨rfl, rfl, rfl⟩ := h
              obtain ⟨i1, i2⟩ := ih _ _ _ _ _ _ _ hp hq
              obtain ⟨j1, j2⟩ := ih _ _ _ _ _ _ _ hp2 (fun y hy => hq y (i1 y hy))
              refine ⟨fun y hy => i1 y (j1 y hy), fun x hx => ?_⟩
              rcases List.mem_append.1 hx with hx | hx
              · exact ⟨(i2 x hx).1.mono (by omega), fun g => (i2 x hx).2 (.inl (by omega))⟩
              · exact ⟨(j2 x hx).1.mono (by omega), fun g => (j2 x hx).2 g⟩
end Go.Proofs.YtapehdolnljnoaaDoor
namespace Go.Proofs.YtapehdolnljnoaaDoor
open Go.RowKit
set_option linter.unusedSimpArgs false
set_option linter.unusedVariables false
/-- a tree that is sound as far as e -/
def SnT (e : Nat) (t : Tre) : Prop := WfT e t ∧ TrG e t ∧ Sz e t ≤ 1024 ∧ 0 ≤ Dp e t ∧ Dp e t ≤ 32
theorem TrG_eq : ∀ {d e : Nat} {t : Tre}, TrG d t → d ≤ e → TrG e t := fun h g => h.mono g
theorem SnT.mono {e e' : Nat} {t : Tre} (h : SnT e t) (g : e ≤ e') : SnT e' t := by
  obtain ⟨h1, h2, h3, h4, h5⟩ := h
  exact ⟨h1.mono g, h2.mono g, by rw [Sz_eq h1 g]; exact h3, by rw [Dp_eq h1 g]; exact h4, by rw [Dp_eq h1 g]; exact h5⟩
/-- a form that is sound -/
def FmG (e : Nat) (fm : Fm) : Prop :=
  (fm.d = true → nameB fm.nm = true ∧ resB fm.nm = false ∧ fm.nm.size ≤ 65536 ∧ fm.i ≤ 16 ∧ fm.j ≤ 16 ∧ SnT e (bdT fm) ∧ fm.it = noT) ∧ (fm.d = false → SnT e fm.it)
theorem sdR_sub (n : Int) (e : ByteArray) : ∀ (k : Nat) (q : List Tok) (j : Nat) (r : List Tok), sdR n e k q = .ok (j, r) → ∀ t ∈ r, t ∈ q
  | k, [], j, r, h => by simp [sdR] at h
  | k, t :: q, j, r, h => by
    simp only [sdR] at h
    repeat' split at h
    · simp only [Except.ok.injEq, Prod.mk.injEq] at h
      obtain ⟨rfl, rfl⟩ := h
      exact fun x hx => by simp [hx]
    · simp at h
    · exact fun x hx => by simp [sdR_sub n e (k + 1) q j r h x hx]
    · simp at h
theorem dfR_good {n : Int} {f : Nat} {q : List Tok} {fm : Fm} {r : List Tok} {z' : Int} (hq : q.length ≤ 4096) (hg : ∀ t ∈ q, TkG t) (h : dfR n f q 0 0 = .ok (fm, r, z')) : FmG (f + 1) fm ∧ ∀ t ∈ r, t ∈ q := by
  cases q with
  | nil => simp [dfR] at h
  | cons t0 q1 =>
    simp only [dfR] at h
    split at h
    · simp at h
    · cases q1 with
      | nil => simp [dfN] at h
      | cons t1 q2 =>
        simp only [dfN] at h
        split at h
        · simp at h
        · rename_i hn
          cases q2 with
          | nil => simp [dfQ] at h
          | cons t2 q3 =>
            simp only [dfQ] at h
            split at h
            · simp at h
            · simp only [dfA] at h
              split at h
              · simp at h
              · rename_i i q4 h4
                simp only [dfB] at h
                split at h
                · simp at h
                · rename_i j q5 h5
                  simp only [dfC] at h
                  split at h
                  · simp at h
                  · rename_i l q6 z6 h6
                    simp only [Except.ok.injEq, Prod.mk.injEq] at h
                    obtain ⟨rfl, rfl, rfl⟩ := h
                    have s4 := sdR_sub _ _ _ _ _ _ h4
                    have s5 := sdR_sub _ _ _ _ _ _ h5
                    have l4 := sdR_len _ _ _ _ _ _ h4
                    have l5 := sdR_len _ _ _ _ _ _ h5
                    simp only [List.length_cons] at hq
                    have hg5 : ∀ t ∈ q5, TkG t := fun t ht => hg t (by simp [s4 t (s5 t ht)])
                    obtain ⟨g1, g2⟩ := prs_good n _ _ _ _ _ _ _ _ h6 hg5
                    have z1 := prs_sz n _ _ _ _ _ _ _ _ h6 (by omega) (by omega)
                    have z2 := prs_ok n _ _ _ _ _ _ _ _ h6 (by omega)
                    have z3 := prs_dp n _ _ _ _ _ _ _ _ h6 (by omega) (by omega) (by omega) (by omega)
                    have z4 := prs_wf n _ _ _ _ _ _ _ _ h6 (by omega) (by omega)
                    have hn1 : nmB t1 = true := by simpa using hn
                    simp only [nmB, Bool.and_eq_true, beq_iff_eq, Bool.not_eq_true'] at hn1
                    have ht1 := (hg t1 (by simp)).1 hn1.1
                    refine ⟨⟨fun _ => ⟨ht1.1, hn1.2, ht1.2, l4.2 (by omega), l5.2 (by omega), ⟨⟨?_, z4⟩, ⟨.inr (.inr (.inr (.inr (.inr rfl)))), fun x hx => ⟨(g2 x hx).1, fun g => by simp [bdT] at g⟩⟩, ?_, ?_, ?_⟩, rfl⟩, fun g => by simp at g⟩, fun t ht => by simp [s4 t (s5 t (g1 t ht))]⟩
                    · show l.length ≤ 4096
                      omega
                    · simp only [Sz, bdT]
                      rw [if_pos (by simp)]
                      omega
                    · simp only [Dp, bdT]
                      rw [if_pos (by simp)]
                      have := fmax_ge (l.map (Dp f)) 0
                      omega
                    · simp only [Dp, bdT]
                      rw [if_pos (by simp)]
                      have := fmax_le (l.map (Dp f)) 0 31 (by omega) (fun y hy => by
                        obtain ⟨x, hx, rfl⟩ := List.mem_map.1 hy
                        have := z3 x hx
                        omega)
                      omega
theorem fmR_good {n : Int} {f : Nat} {q : List Tok} {fm : Fm} {r : List Tok} {z' : Int} (hq : q.length ≤ 4096) (hg : ∀ t ∈ q, TkG t) (h : fmR n f q 0 0 = .ok (fm, r, z')) : FmG (f + 1) fm ∧ ∀ t ∈ r, t ∈ q := by
  cases q with
  | nil => simp [fmR] at h
  | cons t q =>
    simp only [fmR] at h
    split at h
    · exact dfR_good hq hg h
    · split at h
      · simp at h
      · rename_i l q' z1 hp
        simp only [Except.ok.injEq, Prod.mk.injEq] at h
        obtain ⟨rfl, rfl, rfl⟩ := h
        obtain ⟨g1, g2⟩ := prs_good n _ _ _ _ _ _ _ _ hp hg
        have z1 := prs_sz n _ _ _ _ _ _ _ _ hp (by omega) hq
        have z2 := prs_ok n _ _ _ _ _ _ _ _ hp (by omega)
        have z3 := prs_dp n _ _ _ _ _ _ _ _ hp (by omega) (by omega) (by omega) hq
        have z4 := prs_wf n _ _ _ _ _ _ _ _ hp (by omega) hq
        refine ⟨⟨fun g => by simp at g, fun _ => ?_⟩, g1⟩
        match l, z2.2.2.2.1 (by omega) with
        | [x], _ =>
          have hx := z3 x (by simp)
          refine SnT.mono ⟨z4 x (by simp), (g2 x (by simp)).1, ?_, hx.1, ?_⟩ (Nat.le_succ f)
          · simp only [List.map_cons, List.map_nil, List.sum_cons, List.sum_nil] at z1
            show Sz f x ≤ 1024
            omega
          · show Dp f x ≤ 32
            omega
theorem alR_good (n : Int) (F : Nat) : ∀ (g : Nat) (q : List Tok) (l : List Fm), q.length ≤ 4096 → (∀ t ∈ q, TkG t) → alR n F g q = .ok l → ∀ fm ∈ l, FmG (F + 1) fm
  | 0, _, _, _, _, h => by simp [alR] at h
  | g + 1, [], l, _, _, h => by
    simp only [alR, Except.ok.injEq] at h
    subst h
    exact fun fm hf => by simp at hf
  | g + 1, t :: r, l, hl, hg, h => by
    simp only [alR] at h
    cases hf : fmR n F (t :: r) 0 0 with
    | error e => rw [hf] at h; simp at h
    | ok p =>
      obtain ⟨fm, q, z⟩ := p
      rw [hf] at h
      dsimp only at h
      cases ha : alR n F g q with
      | error e => rw [ha] at h; simp at h
      | ok l1 =>
        rw [ha] at h
        simp only [Except.ok.injEq] at h
        subst h
        obtain ⟨h1, h2⟩ := fmR_good hl hg hf
        have hlen := fmR_len (by omega) hf
        intro x hx
        rcases List.mem_cons.1 hx with rfl | hx
        · exact h1
        · exact alR_good n F g q l1 (by omega) (fun t ht => hg t (h2 t ht)) ha x hx
theorem parR_good {s : ByteArray} : ∀ fm ∈ (parR s).1, FmG 12401 fm := by
  by_cases h : (parR s).2.2 = 0
  · obtain ⟨h0, h1, _⟩ := parR_ok h
    exact alR_good _ _ _ _ _ (tokR_len s) (tokR_good s) h1
  · rw [parR_bad h]
    exact fun fm hf => by simp at hf
end Go.Proofs.YtapehdolnljnoaaDoor
