/- Many values as trees: Trees, ItemTrees. Trees of values, and depths. The document's SameAll: the loop. value.Text of the number 7. What ValueKeeps wants of the calls it makes. The document's Decimal and Signed: a number's text. -/
import Derived.Test.YtllpacppedobjaaGreatDoorHam
import Derived.Test.YtllpacppedobjaaGreatDoorHak
import Derived.Deep.RegionHeld3
import Derived.Test.YtllpacppedobjaaGreatDoorHal
import Derived.Test.YtllpacppedobjaaGreatDoorHag
import Derived.Test.YtllpacppedobjaaGreatDoorHah
import Derived.Test.YtllpacppedobjaaGreatDoorHai
import Derived.Test.YtllpacppedobjaaGreatDoorHab
import Derived.Test.YtllpacppedobjaaGreatDoorHaa
import Derived.Lib.ItoaLen
import Derived.Lib.ItoaMem
namespace Go.Proofs.YtllpacppedobjaaGreatDoor
open Go.RowKit
set_option linter.unusedSimpArgs false
set_option linter.unusedVariables false
set_option maxRecDepth 100000 in
theorem uv_info : ∃ i z, Tryz.prog.info? 24 = some i ∧ i.zero = some z ∧ i.size = 4 ∧ i.bytes = 56 ∧ z.cells.size = 4 := ⟨_, _, rfl, rfl, rfl, rfl, rfl⟩
set_option maxRecDepth 100000 in
set_option maxHeartbeats 4000000 in
theorem utrees_of (d : Nat) (H : TuE d 7 false) : TuS d 28 false := by
  intro v l w S hq hl hw
  obtain ⟨av, cv, rfl, hcv, hel⟩ := hq
  have HE : Hid (∀ (j : Nat) (x : Vt), l[j]? = some x → ∃ g k u, av = some ⟨g, k, none⟩ ∧ w.cell? ⟨g, k + j, none⟩ = some u ∧ ∀ w1, Only (fun _ => False) w w1 → Calls Tryz.prog 7 #[u] w1 fun e w' => ∃ lv, e = .returned (.agg #[.int .i64 x.k, .int .i64 (x.n), .string (x.s), lv]) ∧ Hid (NuAt w' w1.heap.size d x lv ∧ Only (fun _ => False) w1 w')) := by
    intro j x hx
    obtain ⟨g, k, u, ha, hg, hc, ht⟩ := hel j x hx
    exact ⟨g, k, u, ha, hc, fun w1 o1 => H u x w1 S (ht.step (fun _ g => g) (fun a u _ hc => o1.cell hc (fun g => g)) (Nat.le_refl _)) (hw x (List.mem_of_getElem? hx))⟩
  have HLB : Hid (l.length ≤ 1048576) := hl
  clear hcv hel hl hw H
  obtain ⟨N, hN⟩ : ∃ N, N = l.length := ⟨_, rfl⟩
  have HNN : Hid (N = l.length) := hN
  rw [← hN]
  clear hN
  go_enter Tryz.func28, Tryz.ntmps28
  go_wp2
  go_loopw [3, 4] (fun r3 r4 wr => ∃ (i : Nat) (ao : Option Addr) (cap : Nat), r3 = .slice ao i cap ∧ r4 = .int .i64 (i : Int) ∧ i ≤ N ∧ Hid (UrAt wr w.heap.size d (.slice ao i cap) (l.take i) ∧ Only (fun _ => False) w wr)) (fun _ r4 _ => N - vuOf r4)
  case atStart => exact ⟨0, none, 0, rfl, rfl, Nat.zero_le _, ur_nil _ _ _, Only.refl _ _⟩
  case round =>
    obtain ⟨i, ao, cap, rfl, rfl, hi, HI⟩ := hrel
    obtain ⟨w1, rfl⟩ : ∃ w1, w1 = wr := ⟨_, rfl⟩
    have hNl : N = l.length := HNN.out
    have hN4 : l.length ≤ 1048576 := HLB.out
    by_cases hiN : i < N
    · obtain ⟨x, hx⟩ : ∃ x, l[i]? = some x := ⟨l[i]'(by omega), List.getElem?_eq_getElem (by omega)⟩
      obtain ⟨g, k, u, rfl, hc, hcall⟩ := HE.out i x hx
      have hc1 : w1.cell? ⟨g, k + i, none⟩ = some u := HI.out.2.cell hc (fun g => g)
      have HC : Hid (Calls Tryz.prog 7 #[u] w1 fun e w' => ∃ lv, e = .returned (.agg #[.int .i64 x.k, .int .i64 (x.n), .string (x.s), lv]) ∧ Hid (NuAt w' w1.heap.size d x lv ∧ Only (fun _ => False) w1 w')) := hcall w1 HI.out.2
      have HX : Hid (l.take i ++ [x] = l.take (i + 1) ∧ (l.take i).length = i) := by
        have hil : i < l.length := by omega
        refine ⟨?_, by simp; omega⟩
        rw [List.take_add_one, hx]
        rfl
      have HB : Hid (i < N ∧ N ≤ 1048576) := ⟨hiN, by omega⟩
      have i1 : (i : Int) < (N : Int) := by omega
      have i0 : (0 : Int) ≤ (i : Int) := by omega
      clear hc hcall HE hNl hN4 hx
      obtain ⟨x0, hx0⟩ : ∃ x0, x0 = x.k := ⟨_, rfl⟩
      obtain ⟨x1, hx1⟩ : ∃ x1, x1 = x.n := ⟨_, rfl⟩
      obtain ⟨x2, hx2⟩ : ∃ x2, x2 = x.s := ⟨_, rfl⟩
      have HXX : Hid (x0 = x.k ∧ x1 = x.n ∧ x2 = x.s) := ⟨hx0, hx1, hx2⟩
      rw [← hx0, ← hx1, ← hx2] at HC
      clear hx0 hx1 hx2
      go_wp2_with fail
      refine (show Calls Tryz.prog 7 _ _ _ from HC.out).mono ?_
      rintro e w2 ⟨lv, rfl, g2⟩
      obtain ⟨al, cl, hlv⟩ := g2.out.1.form
      have W4 : UrAt (w2.alloc (.cells #[.int .i64 x0, .int .i64 x1, .string x2, lv] 24)) w.heap.size d (.slice ao i cap) (l.take i) := (HI.out.1.only g2.out.2 (fun _ _ h => h)).only ((Only.refl (fun _ => False) w2).alloc _) (fun _ _ h => h)
      have N4 : NuAt (w2.alloc (.cells #[.int .i64 x0, .int .i64 x1, .string x2, lv] 24)) w1.heap.size d x lv := g2.out.1.only ((Only.refl (fun _ => False) w2).alloc _) (fun _ _ h => h)
      have O4 : Only (fun _ => False) w (w2.alloc (.cells #[.int .i64 x0, .int .i64 x1, .string x2, lv] 24)) := (HI.out.2.trans g2.out.2 (fun _ _ g => g)).alloc _
      have hlt : ∀ k, (Value.slice ao i cap).ownBlock = some k → k < w1.heap.size := fun k hk => by
        obtain ⟨us, S', hr, _⟩ := HI.out.1
        exact (hr.lt k hk).2
      have hsz1 : w.heap.size ≤ w1.heap.size := HI.out.2.size
      have hsz2 : w1.heap.size ≤ w2.heap.size := g2.out.2.size
      obtain ⟨us, SS, hown, htr, hSS⟩ := W4
      rw [HX.out.2] at hown
      have HOW : Hid ((w2.alloc (.cells #[.int .i64 x0, .int .i64 x1, .string x2, lv] 24)).ownsRow w.heap.size 24 4 (.slice ao i cap) i us) := hown
      have HAL : Hid (_ ∧ _ ∧ NuAt (w2.alloc (.cells #[.int .i64 x0, .int .i64 x1, .string x2, lv] 24)) w1.heap.size d x lv ∧ Only (fun _ => False) w (w2.alloc (.cells #[.int .i64 x0, .int .i64 x1, .string x2, lv] 24)) ∧ w.heap.size ≤ w1.heap.size ∧ (∀ k, (Value.slice ao i cap).ownBlock = some k → k < w1.heap.size)) := ⟨htr, hSS, N4, O4, hsz1, hlt⟩
      subst hlv
      obtain ⟨i0', z0, hi', hz0, hz1, hz2, hz3⟩ := uv_info
      obtain ⟨xl, hxl⟩ : ∃ xl, xl = x.l.length := ⟨_, rfl⟩
      rw [← hxl] at HOW HAL
      rw [← hxl]
      clear N4 O4 hown htr hSS hlt g2 HI HC hxl
      go_wp2_with (at_builtin; refine wpList_append_own_at _ rfl _ _ 22 rfl w.heap.size 24 i0' z0 4 56 Tryz.underlying22 hi' hz0 hz1 hz2 hz3 (by decide) _ i us rfl HOW.out ⟨w2.heap.size, 0, none⟩ 1 1 [.int .i64 x0, .int .i64 x1, .string x2, .slice al xl cl] rfl rfl ?c1 ?c2 ?c3 ?c4 ?c5 ?_)
      case c1 =>
        intro j u hj
        rcases j with _ | _ | _ | _ | j <;> simp at hj <;> subst hj <;> simp [Addr.add]
      case c2 =>
        intro u hu
        simp only [List.mem_cons, List.not_mem_nil, or_false] at hu
        rcases hu with rfl | rfl | rfl | rfl <;> rfl
      case c3 => have := HB.out; unfold maxLen; omega
      case c4 => have := HB.out; omega
      case c5 => simp; omega
      intro v' w4 hown' hgrow _ hat
      obtain ⟨a1, a2, a3, a4, a5, a6⟩ := HAL.out
      obtain ⟨e0, e1, e2⟩ := HXX.out
      have W5 : UrAt w4 w.heap.size d v' (l.take i ++ [x]) := UrAt.snoc hgrow (by rw [HX.out.2]; exact HOW.out) a1 a2 a3 a5 a6 (by rw [HX.out.2, ← e0, ← e1, ← e2]; exact hown') (by simpa using hat)
      rw [HX.out.1] at W5
      have og : Only (fun k => (Value.slice ao i cap).ownBlock = some k) (w2.alloc (.cells #[.int .i64 x0, .int .i64 x1, .string x2, .slice al xl cl] 24)) w4 := (Only.refl _ _).grown hgrow (fun k e _ => e)
      have O5 : Only (fun _ => False) w w4 := a4.trans og (fun k hk e => by have := (HOW.out.lt k e).1; omega)
      obtain ⟨ao', cap', hv'⟩ := W5.form
      have hlen : (l.take (i + 1)).length = i + 1 := by have : N = l.length := HNN.out; have := HB.out; simp; omega
      rw [hlen] at hv'
      subst hv'
      have HK5 : Hid (UrAt w4 w.heap.size d (.slice ao' (i + 1) cap') (l.take (i + 1)) ∧ Only (fun _ => False) w w4) := ⟨W5, O5⟩
      clear W5 O5 og HAL HOW hown' hgrow hat a1 a2 a3 a4 a5 a6 hi' hz0 hz1 hz2 hz3 hsz1 hsz2 e0 e1 e2 HXX hlen
      have hi4 : i ≤ 1048576 := by have := HB.out; omega
      go_wp2
      go_roundw
      case rel => exact ⟨i + 1, ao', cap', rfl, by go_num, by omega, HK5⟩
      case measure => simp only [vuOf]; have := HB.out; omega
    · obtain rfl : i = N := by omega
      have i1 : ¬ (i : Int) < (i : Int) := by omega
      have HK : Hid (UrAt w1 w.heap.size d (.slice ao i cap) l ∧ Only (fun _ => False) w w1) := by
        have := HI.out
        rw [hNl, List.take_length, ← hNl] at this
        exact this
      clear HI hNl hN4
      go_wp2
      go_ret
      exact ⟨ao, cap, rfl, HK⟩
set_option maxRecDepth 100000 in
set_option maxHeartbeats 4000000 in
theorem uitrees_of (d : Nat) (H : TuE d 34 true) : TuS d 18 true := by
  intro v l w S hq hl hw
  obtain ⟨av, cv, rfl, hcv, hel⟩ := hq
  have HE : Hid (∀ (j : Nat) (x : Vt), l[j]? = some x → ∃ g k u, av = some ⟨g, k, none⟩ ∧ w.cell? ⟨g, k + j, none⟩ = some u ∧ ∀ w1, Only (fun _ => False) w w1 → Calls Tryz.prog 34 #[u] w1 fun e w' => ∃ lv, e = .returned (.agg #[.int .i64 x.k, .int .i64 (x.n), .string (x.s), lv]) ∧ Hid (NuAt w' w1.heap.size d x lv ∧ Only (fun _ => False) w1 w')) := by
    intro j x hx
    obtain ⟨g, k, u, ha, hg, hc, ht⟩ := hel j x hx
    exact ⟨g, k, u, ha, hc, fun w1 o1 => H u x w1 S (ht.step (fun _ g => g) (fun a u _ hc => o1.cell hc (fun g => g)) (Nat.le_refl _)) (hw x (List.mem_of_getElem? hx))⟩
  have HLB : Hid (l.length ≤ 1048576) := hl
  clear hcv hel hl hw H
  obtain ⟨N, hN⟩ : ∃ N, N = l.length := ⟨_, rfl⟩
  have HNN : Hid (N = l.length) := hN
  rw [← hN]
  clear hN
  go_enter Tryz.func18, Tryz.ntmps18
  go_wp2
  go_loopw [3, 4] (fun r3 r4 wr => ∃ (i : Nat) (ao : Option Addr) (cap : Nat), r3 = .slice ao i cap ∧ r4 = .int .i64 (i : Int) ∧ i ≤ N ∧ Hid (UrAt wr w.heap.size d (.slice ao i cap) (l.take i) ∧ Only (fun _ => False) w wr)) (fun _ r4 _ => N - vuOf r4)
  case atStart => exact ⟨0, none, 0, rfl, rfl, Nat.zero_le _, ur_nil _ _ _, Only.refl _ _⟩
  case round =>
    obtain ⟨i, ao, cap, rfl, rfl, hi, HI⟩ := hrel
    obtain ⟨w1, rfl⟩ : ∃ w1, w1 = wr := ⟨_, rfl⟩
    have hNl : N = l.length := HNN.out
    have hN4 : l.length ≤ 1048576 := HLB.out
    by_cases hiN : i < N
    · obtain ⟨x, hx⟩ : ∃ x, l[i]? = some x := ⟨l[i]'(by omega), List.getElem?_eq_getElem (by omega)⟩
      obtain ⟨g, k, u, rfl, hc, hcall⟩ := HE.out i x hx
      have hc1 : w1.cell? ⟨g, k + i, none⟩ = some u := HI.out.2.cell hc (fun g => g)
      have HC : Hid (Calls Tryz.prog 34 #[u] w1 fun e w' => ∃ lv, e = .returned (.agg #[.int .i64 x.k, .int .i64 (x.n), .string (x.s), lv]) ∧ Hid (NuAt w' w1.heap.size d x lv ∧ Only (fun _ => False) w1 w')) := hcall w1 HI.out.2
      have HX : Hid (l.take i ++ [x] = l.take (i + 1) ∧ (l.take i).length = i) := by
        have hil : i < l.length := by omega
        refine ⟨?_, by simp; omega⟩
        rw [List.take_add_one, hx]
        rfl
      have HB : Hid (i < N ∧ N ≤ 1048576) := ⟨hiN, by omega⟩
      have i1 : (i : Int) < (N : Int) := by omega
      have i0 : (0 : Int) ≤ (i : Int) := by omega
      clear hc hcall HE hNl hN4 hx
      obtain ⟨x0, hx0⟩ : ∃ x0, x0 = x.k := ⟨_, rfl⟩
      obtain ⟨x1, hx1⟩ : ∃ x1, x1 = x.n := ⟨_, rfl⟩
      obtain ⟨x2, hx2⟩ : ∃ x2, x2 = x.s := ⟨_, rfl⟩
      have HXX : Hid (x0 = x.k ∧ x1 = x.n ∧ x2 = x.s) := ⟨hx0, hx1, hx2⟩
      rw [← hx0, ← hx1, ← hx2] at HC
      clear hx0 hx1 hx2
      go_wp2_with fail
      refine (show Calls Tryz.prog 34 _ _ _ from HC.out).mono ?_
      rintro e w2 ⟨lv, rfl, g2⟩
      obtain ⟨al, cl, hlv⟩ := g2.out.1.form
      have W4 : UrAt (w2.alloc (.cells #[.int .i64 x0, .int .i64 x1, .string x2, lv] 24)) w.heap.size d (.slice ao i cap) (l.take i) := (HI.out.1.only g2.out.2 (fun _ _ h => h)).only ((Only.refl (fun _ => False) w2).alloc _) (fun _ _ h => h)
      have N4 : NuAt (w2.alloc (.cells #[.int .i64 x0, .int .i64 x1, .string x2, lv] 24)) w1.heap.size d x lv := g2.out.1.only ((Only.refl (fun _ => False) w2).alloc _) (fun _ _ h => h)
      have O4 : Only (fun _ => False) w (w2.alloc (.cells #[.int .i64 x0, .int .i64 x1, .string x2, lv] 24)) := (HI.out.2.trans g2.out.2 (fun _ _ g => g)).alloc _
      have hlt : ∀ k, (Value.slice ao i cap).ownBlock = some k → k < w1.heap.size := fun k hk => by
        obtain ⟨us, S', hr, _⟩ := HI.out.1
        exact (hr.lt k hk).2
      have hsz1 : w.heap.size ≤ w1.heap.size := HI.out.2.size
      have hsz2 : w1.heap.size ≤ w2.heap.size := g2.out.2.size
      obtain ⟨us, SS, hown, htr, hSS⟩ := W4
      rw [HX.out.2] at hown
      have HOW : Hid ((w2.alloc (.cells #[.int .i64 x0, .int .i64 x1, .string x2, lv] 24)).ownsRow w.heap.size 24 4 (.slice ao i cap) i us) := hown
      have HAL : Hid (_ ∧ _ ∧ NuAt (w2.alloc (.cells #[.int .i64 x0, .int .i64 x1, .string x2, lv] 24)) w1.heap.size d x lv ∧ Only (fun _ => False) w (w2.alloc (.cells #[.int .i64 x0, .int .i64 x1, .string x2, lv] 24)) ∧ w.heap.size ≤ w1.heap.size ∧ (∀ k, (Value.slice ao i cap).ownBlock = some k → k < w1.heap.size)) := ⟨htr, hSS, N4, O4, hsz1, hlt⟩
      subst hlv
      obtain ⟨i0', z0, hi', hz0, hz1, hz2, hz3⟩ := uv_info
      obtain ⟨xl, hxl⟩ : ∃ xl, xl = x.l.length := ⟨_, rfl⟩
      rw [← hxl] at HOW HAL
      rw [← hxl]
      clear N4 O4 hown htr hSS hlt g2 HI HC hxl
      go_wp2_with (at_builtin; refine wpList_append_own_at _ rfl _ _ 22 rfl w.heap.size 24 i0' z0 4 56 Tryz.underlying22 hi' hz0 hz1 hz2 hz3 (by decide) _ i us rfl HOW.out ⟨w2.heap.size, 0, none⟩ 1 1 [.int .i64 x0, .int .i64 x1, .string x2, .slice al xl cl] rfl rfl ?c1 ?c2 ?c3 ?c4 ?c5 ?_)
      case c1 =>
        intro j u hj
        rcases j with _ | _ | _ | _ | j <;> simp at hj <;> subst hj <;> simp [Addr.add]
      case c2 =>
        intro u hu
        simp only [List.mem_cons, List.not_mem_nil, or_false] at hu
        rcases hu with rfl | rfl | rfl | rfl <;> rfl
      case c3 => have := HB.out; unfold maxLen; omega
      case c4 => have := HB.out; omega
      case c5 => simp; omega
      intro v' w4 hown' hgrow _ hat
      obtain ⟨a1, a2, a3, a4, a5, a6⟩ := HAL.out
      obtain ⟨e0, e1, e2⟩ := HXX.out
      have W5 : UrAt w4 w.heap.size d v' (l.take i ++ [x]) := UrAt.snoc hgrow (by rw [HX.out.2]; exact HOW.out) a1 a2 a3 a5 a6 (by rw [HX.out.2, ← e0, ← e1, ← e2]; exact hown') (by simpa using hat)
      rw [HX.out.1] at W5
      have og : Only (fun k => (Value.slice ao i cap).ownBlock = some k) (w2.alloc (.cells #[.int .i64 x0, .int .i64 x1, .string x2, .slice al xl cl] 24)) w4 := (Only.refl _ _).grown hgrow (fun k e _ => e)
      have O5 : Only (fun _ => False) w w4 := a4.trans og (fun k hk e => by have := (HOW.out.lt k e).1; omega)
      obtain ⟨ao', cap', hv'⟩ := W5.form
      have hlen : (l.take (i + 1)).length = i + 1 := by have : N = l.length := HNN.out; have := HB.out; simp; omega
      rw [hlen] at hv'
      subst hv'
      have HK5 : Hid (UrAt w4 w.heap.size d (.slice ao' (i + 1) cap') (l.take (i + 1)) ∧ Only (fun _ => False) w w4) := ⟨W5, O5⟩
      clear W5 O5 og HAL HOW hown' hgrow hat a1 a2 a3 a4 a5 a6 hi' hz0 hz1 hz2 hz3 hsz1 hsz2 e0 e1 e2 HXX hlen
      have hi4 : i ≤ 1048576 := by have := HB.out; omega
      go_wp2
      go_roundw
      case rel => exact ⟨i + 1, ao', cap', rfl, by go_num, by omega, HK5⟩
      case measure => simp only [vuOf]; have := HB.out; omega
    · obtain rfl : i = N := by omega
      have i1 : ¬ (i : Int) < (i : Int) := by omega
      have HK : Hid (UrAt w1 w.heap.size d (.slice ao i cap) l ∧ Only (fun _ => False) w w1) := by
        have := HI.out
        rw [hNl, List.take_length, ← hNl] at this
        exact this
      clear HI hNl hN4
      go_wp2
      go_ret
      exact ⟨ao, cap, rfl, HK⟩
theorem utrees_any : ∀ (d d' : Nat), d' < d → TuE d' 7 false ∧ TuE d' 34 true
  | 0, d', h => by omega
  | d + 1, d', h => by
    have ih := utrees_any d
    by_cases hd : d' < d
    · exact ih d' hd
    · obtain rfl : d' = d := by omega
      cases d' with
      | zero => exact ⟨fun v t w S h => h.elim, fun v t w S h => h.elim⟩
      | succ e => exact ⟨utree_of e (utrees_of e (ih e (by omega)).1) (uitrees_of e (ih e (by omega)).2), uitree_of e (ih e (by omega)).1⟩
theorem uitrees_any (d : Nat) : TuS d 18 true := uitrees_of d (utrees_any (d + 1) d (by omega)).2
end Go.Proofs.YtllpacppedobjaaGreatDoor
namespace Go.Proofs.YtllpacppedobjaaGreatDoor
open Go.RowKit Go.Lib
set_option linter.unusedSimpArgs false
set_option linter.unusedVariables false
theorem LfT.mono : ∀ {d d' : Nat} {t : Vt}, d ≤ d' → LfT d t → LfT d' t
  | 0, _, _, _, h => h.elim
  | d + 1, 0, t, hd, h => by omega
  | d + 1, e + 1, t, hd, h => ⟨h.1, fun x hx => (h.2 x hx).mono (by omega)⟩
theorem tree_calls {a : Vt} {x : Value} {d B : Nat} {w : World} (h : Vx w B d a x) (sa : SmT d a) : ∀ w1, (∃ bs : Nat → Prop, Only bs w w1 ∧ ∀ b, B ≤ b → ¬ bs b) → Calls Tryz.prog 7 #[x] w1 fun e w' => ∃ lv, e = .returned (.agg #[.int .i64 (nm d false a).k, .int .i64 (nm d false a).n, .string (nm d false a).s, lv]) ∧ Hid ((∃ ao cap, lv = .slice ao (nm d false a).l.length cap) ∧ NuAt w' w1.heap.size (2 * d + 1) (nm d false a) lv ∧ Only (fun _ => False) w1 w') := fun w1 ⟨bs, o1, hb⟩ => by
  obtain ⟨S, h1, h2⟩ := h.only o1 hb
  refine ((utrees_any (2 * d + 2) (2 * d + 1) (by omega)).1 x (nm d false a) w1 S h1 ⟨d, nm_nf d false a sa⟩).mono fun e w' g => ?_
  obtain ⟨lv, he, g⟩ := g
  exact ⟨lv, he, g.out.1.form, g.out⟩
end Go.Proofs.YtllpacppedobjaaGreatDoor
namespace Go.Proofs.YtllpacppedobjaaGreatDoor
open Go.RowKit Go.Lib
set_option linter.unusedSimpArgs false
set_option linter.unusedVariables false
set_option maxRecDepth 100000 in
set_option maxHeartbeats 4000000 in
theorem sameall_ne (a1 a2 : Option Addr) (La Lb c1 c2 : Nat) (w : World) (h : ¬ (La : Int) = (Lb : Int)) : Calls Tryz.prog 40 #[.slice a1 La c1, .slice a2 Lb c2] w fun e w' => e = .returned (.bool false) ∧ Only (fun _ => False) w w' := by
  have O0 : Hid (Only (fun _ => False) w w) := Only.refl _ _
  go_enter Tryz.func40, Tryz.ntmps40
  go_wp2
  go_ret
  exact ⟨rfl, O0.out⟩
set_option maxRecDepth 100000 in
set_option maxHeartbeats 40000000 in
theorem dsameall_of (d : Nat) (H : DmC d) : DaC (d + 1) := by
  intro la lb va vb w S S' h1 h2 hla hlb gla glb
  obtain ⟨aa, ca, rfl, hca, ha⟩ := h1
  obtain ⟨ab, cb, rfl, hcb, hb⟩ := h2
  by_cases hlen : la.length = lb.length
  · have HE : Hid (∀ (j : Nat) (x y : Vt), la[j]? = some x → lb[j]? = some y → ∃ g k lx g' k' lx', aa = some ⟨g, k, none⟩ ∧ ab = some ⟨g', k', none⟩ ∧ (w.cell? ⟨g, k + j * 4, none⟩ = some (.int .i64 x.k) ∧ w.cell? ⟨g, k + j * 4 + 1, none⟩ = some (.int .i64 x.n) ∧ w.cell? ⟨g, k + j * 4 + 2, none⟩ = some (.string x.s) ∧ w.cell? ⟨g, k + j * 4 + 3, none⟩ = some lx) ∧ (w.cell? ⟨g', k' + j * 4, none⟩ = some (.int .i64 y.k) ∧ w.cell? ⟨g', k' + j * 4 + 1, none⟩ = some (.int .i64 y.n) ∧ w.cell? ⟨g', k' + j * 4 + 2, none⟩ = some (.string y.s) ∧ w.cell? ⟨g', k' + j * 4 + 3, none⟩ = some lx') ∧ ∀ w1, Only (fun _ => False) w w1 → Calls Tryz.prog 21 #[.agg #[.int .i64 x.k, .int .i64 x.n, .string x.s, lx], .agg #[.int .i64 y.k, .int .i64 y.n, .string y.s, lx']] w1 fun e w' => e = .returned (.bool (saV d x y)) ∧ Only (fun _ => False) w1 w') := by
      intro j x y hx hy
      obtain ⟨g, k, lx, p1, p2, p3, p4⟩ := ha j x hx
      obtain ⟨g', k', lx', q1, q2, q3, q4⟩ := hb j y hy
      exact ⟨g, k, lx, g', k', lx', p1, q1, p3, q3, fun w1 o1 => H x y lx lx' w1 S S' (p4.only o1) (q4.only o1) (gla x (List.mem_of_getElem? hx)) (glb y (List.mem_of_getElem? hy))⟩
    have HLB : Hid (la.length ≤ 1048576 ∧ la.length = lb.length) := ⟨hla, hlen⟩
    clear ha hb H hca hcb gla glb hla hlb
    rw [← hlen]
    obtain ⟨N, hN⟩ : ∃ N, N = la.length := ⟨_, rfl⟩
    have HNN : Hid (N = la.length) := hN
    rw [← hN]
    show Calls Tryz.prog 40 #[.slice aa N ca, .slice ab N cb] w fun e w' => e = .returned (.bool (smL (saV d) la lb)) ∧ Only (fun _ => False) w w'
    obtain ⟨R, hR⟩ : ∃ R, R = smL (saV d) la lb := ⟨_, rfl⟩
    rw [← hR]
    have HR : Hid (R = smL (saV d) (la.drop 0) (lb.drop 0)) := hR
    clear hN hlen hR
    go_enter Tryz.func40, Tryz.ntmps40
    go_wp2
    go_loopw [5] (fun r5 wr => ∃ i : Nat, r5 = .int .i64 (i : Int) ∧ i ≤ N ∧ Hid (R = smL (saV d) (la.drop i) (lb.drop i)) ∧ Hid (Only (fun _ => False) w wr)) (fun r5 _ => N - uOf r5)
    case atStart => exact ⟨0, rfl, Nat.zero_le _, HR, Only.refl _ _⟩
    case round =>
      clear HR
      obtain ⟨i, rfl, hi, HR, HI⟩ := hrel
      obtain ⟨w1, rfl⟩ : ∃ w1, w1 = wr := ⟨_, rfl⟩
      have hNl : N = la.length := HNN.out
      have hN4 : la.length ≤ 1048576 ∧ la.length = lb.length := HLB.out
      by_cases hiN : i < N
      · obtain ⟨x, hx⟩ : ∃ x, la[i]? = some x := ⟨la[i]'(by omega), List.getElem?_eq_getElem (by omega)⟩
        obtain ⟨y, hy⟩ : ∃ y, lb[i]? = some y := ⟨lb[i]'(by omega), List.getElem?_eq_getElem (by omega)⟩
        obtain ⟨g, k, lx, g', k', lx', rfl, rfl, ⟨h0, h1, h2, h3⟩, ⟨h4, h5, h6, h7⟩, hcall⟩ := HE.out i x y hx hy
        have o1 := HI.out
        have HS : Hid (∀ w', Only (fun _ => False) w1 w' → (w'.cell? ⟨g, k + i * 4, none⟩ = some (.int .i64 x.k) ∧ w'.cell? ⟨g, k + i * 4 + 1, none⟩ = some (.int .i64 x.n) ∧ w'.cell? ⟨g, k + i * 4 + 2, none⟩ = some (.string x.s) ∧ w'.cell? ⟨g, k + i * 4 + 3, none⟩ = some lx) ∧ (w'.cell? ⟨g', k' + i * 4, none⟩ = some (.int .i64 y.k) ∧ w'.cell? ⟨g', k' + i * 4 + 1, none⟩ = some (.int .i64 y.n) ∧ w'.cell? ⟨g', k' + i * 4 + 2, none⟩ = some (.string y.s) ∧ w'.cell? ⟨g', k' + i * 4 + 3, none⟩ = some lx')) := fun w' o => by
          have oo := o1.trans o (fun _ _ g => g)
          exact ⟨⟨oo.cell h0 (fun g => g), oo.cell h1 (fun g => g), oo.cell h2 (fun g => g), oo.cell h3 (fun g => g)⟩, ⟨oo.cell h4 (fun g => g), oo.cell h5 (fun g => g), oo.cell h6 (fun g => g), oo.cell h7 (fun g => g)⟩⟩
        obtain ⟨Z, hZ⟩ : ∃ Z, Z = saV d x y := ⟨_, rfl⟩
        rw [← hZ] at hcall
        have HR2 : Hid (R = (Z && smL (saV d) (la.drop (i + 1)) (lb.drop (i + 1)))) := by
          have := HR.out
          rw [drop_at hx, drop_at hy] at this
          rw [hZ]
          exact this
        have HCC : Hid (∀ w1, Only (fun _ => False) w w1 → Calls Tryz.prog 21 #[.agg #[.int .i64 x.k, .int .i64 x.n, .string x.s, lx], .agg #[.int .i64 y.k, .int .i64 y.n, .string y.s, lx']] w1 fun e w' => e = .returned (.bool Z) ∧ Only (fun _ => False) w1 w') := hcall
        obtain ⟨⟨c0, c1, c2, c3⟩, ⟨c4, c5, c6, c7⟩⟩ := HS.out w1 (Only.refl _ _)
        have HB : Hid (i < N ∧ N ≤ 1048576) := ⟨hiN, by omega⟩
        have i1 : (i : Int) < (N : Int) := by omega
        have i0 : (0 : Int) ≤ (i : Int) := by omega
        have hi4 : i ≤ 1048576 := by omega
        obtain ⟨x0, hx0⟩ : ∃ x0, x0 = x.k := ⟨_, rfl⟩
        obtain ⟨x1, hx1⟩ : ∃ x1, x1 = x.n := ⟨_, rfl⟩
        obtain ⟨x2, hx2⟩ : ∃ x2, x2 = x.s := ⟨_, rfl⟩
        obtain ⟨y0, hy0⟩ : ∃ y0, y0 = y.k := ⟨_, rfl⟩
        obtain ⟨y1, hy1⟩ : ∃ y1, y1 = y.n := ⟨_, rfl⟩
        obtain ⟨y2, hy2⟩ : ∃ y2, y2 = y.s := ⟨_, rfl⟩
        rw [← hx0, ← hx1, ← hx2, ← hy0, ← hy1, ← hy2] at HCC HS
        rw [← hx0] at c0
        rw [← hx1] at c1
        rw [← hx2] at c2
        rw [← hy0] at c4
        rw [← hy1] at c5
        rw [← hy2] at c6
        clear hx0 hx1 hx2 hy0 hy1 hy2 HE h0 h1 h2 h3 h4 h5 h6 h7 hcall o1 hx hy hZ hNl hN4 hi hiN HR
        go_wp2_with fail
        have OR : Hid (Only (fun _ => False) w1 w1) := Only.refl _ _
        go_region_held3 (fun w' => (w'.cell? ⟨g, k + i * 4, none⟩ = some (.int .i64 x0) ∧ w'.cell? ⟨g, k + i * 4 + 1, none⟩ = some (.int .i64 x1) ∧ w'.cell? ⟨g, k + i * 4 + 2, none⟩ = some (.string x2) ∧ w'.cell? ⟨g, k + i * 4 + 3, none⟩ = some lx) ∧ (w'.cell? ⟨g', k' + i * 4, none⟩ = some (.int .i64 y0) ∧ w'.cell? ⟨g', k' + i * 4 + 1, none⟩ = some (.int .i64 y1) ∧ w'.cell? ⟨g', k' + i * 4 + 2, none⟩ = some (.string y2) ∧ w'.cell? ⟨g', k' + i * 4 + 3, none⟩ = some lx'))
          (first
            | with_reducible exact HS.out _ OR.out.drew
            | with_reducible exact HS.out _ O2.out)
          (first | (go_at_call 21; refine (show Calls Tryz.prog 21 _ _ _ from HCC.out _ HI.out.drew).mono ?_; rintro ex w2 ⟨rfl, o2⟩; have O2 : Hid (Only (fun _ => False) w1 w2) := OR.out.drew.trans o2 (fun _ _ g => g)))
        have HK : Hid (Only (fun _ => False) w w2) := HI.out.trans O2.out (fun _ _ g => g)
        clear HI O2 OR HS HCC c0 c1 c2 c3 c4 c5 c6 c7 o2
        cases Z with
        | false =>
          go_wp2
          go_ret
          exact ⟨by rw [HR2.out]; rfl, HK.out⟩
        | true =>
          go_wp2
          go_roundw
          case rel => exact ⟨i + 1, by go_num, by have := HB.out; omega, HR2.out.trans (Bool.true_and _), HK⟩
          case measure => simp only [uOf]; have := HB.out; omega
      · obtain rfl : i = N := by omega
        have i1 : ¬ (i : Int) < (i : Int) := by omega
        have HR2 : Hid (R = true) := by
          have := HR.out
          rw [List.drop_eq_nil_of_le (show la.length ≤ i by omega), List.drop_eq_nil_of_le (show lb.length ≤ i by omega)] at this
          exact this
        clear HE hNl hN4 hi hiN HR
        go_wp2
        go_ret
        exact ⟨by rw [HR2.out]; rfl, HI.out⟩
  · show Calls Tryz.prog 40 _ w fun e w' => e = .returned (.bool (smL (saV d) la lb)) ∧ Only (fun _ => False) w w'
    rw [smL_len _ _ _ hlen]
    exact sameall_ne _ _ _ _ _ _ w (by omega)
theorem dsame_all : ∀ (d : Nat), DaC d ∧ DmC d
  | 0 => ⟨fun la lb va vb w S S' h => h.elim, fun a b va vb w S S' h => h.elim⟩
  | d + 1 => ⟨dsameall_of d (dsame_all d).2, dsame_of d (dsameall_of d (dsame_all d).2)⟩
end Go.Proofs.YtllpacppedobjaaGreatDoor
namespace Go.Proofs.YtllpacppedobjaaGreatDoor
open Go.RowKit Go.Lib
set_option linter.unusedSimpArgs false
set_option linter.unusedVariables false
set_option maxRecDepth 100000 in
theorem add7 (w : World) : Calls Tryz.prog 31 #[.slice none 0 0, i7] w fun e w' => ∃ g c : Nat, e = .returned (.slice (some ⟨g, 0, none⟩) 1 c) ∧ w'.cell? ⟨g, 0, none⟩ = some (.string ⟨#[55]⟩) ∧ Only (fun _ => False) w w' := by
  have HV : Hid (∀ w1, Calls Tryz.prog 49 #[p7] w1 fun e w' => e = .returned (.string ⟨#[55]⟩) ∧ Only (fun _ => False) w1 w') := word7
  have hl := va_miss 63 71 27 _ Tryz.underlying71 (by intro m h; cases h) (by decide) (.agg #[.slice none 0 0]) (fun _ => rfl)
  have hq := va_miss 63 73 27 _ Tryz.underlying73 (by intro m h; cases h) (by decide) (.agg #[.slice none 0 0]) (fun _ => rfl)
  have hx := va_miss 63 75 27 _ Tryz.underlying75 (by intro m h; cases h) (by decide) (.agg #[.int .i64 0]) (fun _ => rfl)
  go_enter Tryz.func31, Tryz.ntmps31
  go_wp2_with fail
  refine (show Calls Tryz.prog 49 _ _ _ from HV.out _).mono ?_
  rintro e w1 ⟨rfl, o1⟩
  have O1 : Hid (Only (fun _ => False) w w1) := ((((Only.refl (fun _ => False) w).alloc _).alloc _).alloc _).trans o1 (fun _ _ g => g)
  clear HV o1 hl hq hx
  go_wp2
  go_ret
  refine ⟨_, _, rfl, ?_, ?_⟩
  · refine (wr_cell (va_at (w1.alloc (.cells #[.string ⟨#[55]⟩] 9)) _ _ (Array.size_push ..).symm) 0).trans ?_
    rw [Array.getElem?_append_left (by simp)]
    rfl
  · have o := (O1.out.alloc (.cells #[.string ⟨#[55]⟩] 9)).alloc (.cells (#[.string ⟨#[55]⟩] ++ Builtin.zeroCells #[.string ⟨#[]⟩] ((Question.appendCap 1 0 9).cut (w1.tape w1.drawn (Question.appendCap 1 0 9)) - 1)) 9)
    exact ⟨o.os, o.tape, o.output, o.size, o.block⟩
set_option maxRecDepth 100000 in
theorem joined1 (w : World) (g c : Nat) (s : ByteArray) (hg : w.cell? ⟨g, 0, none⟩ = some (.string s)) : Calls Tryz.prog 30 #[.slice (some ⟨g, 0, none⟩) 1 c, .string ⟨#[32]⟩] w fun e w' => e = .returned (.string s) ∧ w' = w := by
  go_enter Tryz.func30, Tryz.ntmps30
  go_wp2
  go_ret
  exact ⟨rfl, rfl⟩
set_option maxRecDepth 100000 in
theorem vtext7 (w : World) : Calls Tryz.prog 12 #[i7] w fun e w' => e = .returned (.tuple #[.string ⟨#[55]⟩, .int .i64 0]) ∧ Only (fun _ => False) w w' := by
  have HC : Hid (∀ w1, Calls Tryz.prog 9 #[i7] w1 fun e w' => e = .returned (.int .i64 0) ∧ Only (fun _ => False) w1 w') := check7
  have HA : Hid (∀ w1, Calls Tryz.prog 31 #[.slice none 0 0, i7] w1 fun e w' => ∃ g c : Nat, e = .returned (.slice (some ⟨g, 0, none⟩) 1 c) ∧ w'.cell? ⟨g, 0, none⟩ = some (.string ⟨#[55]⟩) ∧ Only (fun _ => False) w1 w') := add7
  have HJ : Hid (∀ w1 g c s, w1.cell? ⟨g, 0, none⟩ = some (.string s) → Calls Tryz.prog 30 #[.slice (some ⟨g, 0, none⟩) 1 c, .string ⟨#[32]⟩] w1 fun e w' => e = .returned (.string s) ∧ w' = w1) := joined1
  go_enter Tryz.func12, Tryz.ntmps12
  go_wp2_with fail
  refine (show Calls Tryz.prog 9 _ _ _ from HC.out _).mono ?_
  rintro e w1 ⟨rfl, o1⟩
  have O1 : Hid (Only (fun _ => False) w w1) := o1
  clear HC o1
  go_wp2_with fail
  refine (show Calls Tryz.prog 31 _ _ _ from HA.out _).mono ?_
  rintro e w2 ⟨g, c, rfl, hg, o2⟩
  have O2 : Hid (Only (fun _ => False) w w2) := O1.out.trans o2 (fun _ _ g => g)
  have HG : Hid (w2.cell? ⟨g, 0, none⟩ = some (.string ⟨#[55]⟩)) := hg
  clear HA o2 hg O1
  go_wp2_with fail
  refine (show Calls Tryz.prog 30 _ _ _ from HJ.out _ _ _ _ HG.out).mono ?_
  rintro e w3 ⟨rfl, rfl⟩
  clear HJ HG
  go_wp2
  go_ret2
  exact ⟨rfl, O2.out⟩
set_option maxRecDepth 100000 in
theorem vawake (w : World) : Calls Tryz.prog 5 #[] w fun e w' => e = .returned (.bool true) ∧ Only (fun _ => False) w w' := by
  have HT : Hid (∀ w1, Calls Tryz.prog 12 #[i7] w1 fun e w' => e = .returned (.tuple #[.string ⟨#[55]⟩, .int .i64 0]) ∧ Only (fun _ => False) w1 w') := vtext7
  go_enter Tryz.func5, Tryz.ntmps5
  go_wp2_with fail
  refine (show Calls Tryz.prog 12 _ _ _ from HT.out _).mono ?_
  rintro e w1 ⟨rfl, o1⟩
  have O1 : Hid (Only (fun _ => False) w w1) := o1
  clear HT o1
  go_wp2
  all_goals
    go_ret
    exact ⟨rfl, O1.out⟩
end Go.Proofs.YtllpacppedobjaaGreatDoor
namespace Go.Proofs.YtllpacppedobjaaGreatDoor
open Go.RowKit Go.Lib Go.Shelf
set_option linter.unusedSimpArgs false
set_option linter.unusedVariables false
theorem ksmL_self (f : Vt → Vt → Bool) : ∀ (l : List Vt), (∀ x ∈ l, f x x = true) → smL f l l = true
  | [], _ => rfl
  | t :: l, h => by
    have h1 := h t (List.mem_cons_self ..)
    have h2 := ksmL_self f l (fun x hx => h x (List.mem_cons_of_mem _ hx))
    simp only [smL, h1, h2, Bool.and_true]
theorem ksaV_self : ∀ (d : Nat) (t : Vt), LfT d t → saV d t t = true
  | 0, _, h => h.elim
  | d + 1, t, h => by
    have h1 : smL (saV d) t.l t.l = true := ksmL_self _ _ (fun x hx => ksaV_self d x (h.2 x hx))
    have h2 : saL t.k t.n t.n t.s t.s = true := by
      unfold saL
      split
      · simp
      split
      · simp
      split
      · simp
      · rfl
    simp only [saV, h1, h2, decide_true, Bool.and_true]
/-- a value x that is a tree, in blocks that may be written over, from B on -/
def XvAt (w : World) (B d : Nat) (t : Vt) (x : Value) : Prop := NiAt w B (2 * d + 1) false (nm d false t) x
/-- the tree of a value, in any later world that keeps it -/
theorem vk_tree {a : Vt} {x : Value} {d B : Nat} {w : World} (h : XvAt w B d a x) (sa : SmT d a) (w1 : World) (bs : Nat → Prop) (o1 : Only bs w w1) (hb : ∀ b, b < w.heap.size → ¬ bs b) :
    Calls Tryz.prog 7 #[x] w1 fun e w' => ∃ lv, e = .returned (.agg #[.int .i64 (nm d false a).k, .int .i64 (nm d false a).n, .string (nm d false a).s, lv]) ∧ Hid ((∃ ao cap, lv = .slice ao (nm d false a).l.length cap) ∧ NuAt w' w1.heap.size (2 * d + 1) (nm d false a) lv ∧ Only (fun _ => False) w1 w') := by
  obtain ⟨S, h1, h2⟩ := h
  refine ((utrees_any (2 * d + 2) (2 * d + 1) (by omega)).1 x (nm d false a) w1 S (h1.only o1 (fun b hs => hb b (h2 b hs).2.1)) ⟨d, nm_nf d false a sa⟩).mono fun e w' g => ?_
  obtain ⟨lv, he, g⟩ := g
  exact ⟨lv, he, g.out.1.form, g.out⟩
/-- two trees of one value are the same -/
theorem vk_same {a : Vt} {d B C : Nat} {w : World} {l1 l2 : Value} (h1 : NuAt w B (2 * d + 1) (nm d false a) l1) (h2 : NuAt w C (2 * d + 1) (nm d false a) l2) (sa : SmT d a) :
    Calls Tryz.prog 21 #[.agg #[.int .i64 (nm d false a).k, .int .i64 (nm d false a).n, .string (nm d false a).s, l1], .agg #[.int .i64 (nm d false a).k, .int .i64 (nm d false a).n, .string (nm d false a).s, l2]] w fun e w' => e = .returned (.bool true) ∧ Only (fun _ => False) w w' := by
  obtain ⟨S1, p1, _⟩ := h1
  obtain ⟨S2, p2, _⟩ := h2
  have := (dsame_all (2 * d + 1)).2 (nm d false a) (nm d false a) l1 l2 w S1 S2 p1 p2 ⟨d, nm_sm d false a sa⟩ ⟨d, nm_sm d false a sa⟩
  rw [ksaV_self _ _ ((nm_lf d false a sa).mono (by omega))] at this
  exact this
/-- a copy, or nil -/
def CyAt (w : World) (B d : Nat) (c : Value) (E : Int) : Prop := (E = 0 ∨ (E = 1 ∧ c = .nilIface)) ∧ ∃ S, SpAt w S (2 * d + 1) c ∧ ∀ b, S b → B ≤ b ∧ Liv w b
theorem vk_copy {a : Vt} {x : Value} {d B : Nat} {w : World} (h : XvAt w B d a x) (sa : SmT d a) (hT : Tb w) (w1 : World) (o1 : Only (fun _ => False) w w1) :
    Calls Tryz.prog 14 #[x] w1 fun e w' => ∃ c E, e = .returned (.tuple #[c, .int .i64 E]) ∧ Hid (CyAt w' w1.heap.size d c E ∧ Only (fun _ => False) w1 w') := by
  obtain ⟨S, h1, h2⟩ := h
  have hs : ∃ e, SmT e (nm d false a) := ⟨d, nm_sm d false a sa⟩
  refine (vcopy_any (h1.only o1 (fun _ _ g => g)) (fun b hb => Nat.lt_of_lt_of_le (h2 b hb).2.1 o1.size) hs (hT.frame o1)).mono fun e w' g => ?_
  obtain ⟨v', he, g1, g2, g3⟩ := g
  refine ⟨v', _, he, ?_, g3⟩
  cases hZ : sdB (2 * d + 1) (nm d false a) with
  | true =>
    obtain ⟨S', q1, q2⟩ := g1 hZ
    exact ⟨.inl rfl, S', q1.sp hs, q2⟩
  | false =>
    rw [g2 hZ]
    exact ⟨.inr ⟨rfl, rfl⟩, fun _ => False, .inl rfl, fun b hb => hb.elim⟩
theorem vk_spoil {w w1 : World} {B d : Nat} {c : Value} {S : Nat → Prop} (h1 : SpAt w S (2 * d + 1) c) (h2 : ∀ b, S b → B ≤ b ∧ Liv w b) (bs : Nat → Prop) (o1 : Only bs w w1) (hb : ∀ b, b < w.heap.size → ¬ bs b) :
    Calls Tryz.prog 26 #[c] w1 fun e w' => e = .returned (.tuple #[]) ∧ Only S w1 w' := by
  have ol : Only (fun b => bs b ∧ w.heap.size ≤ b) w w1 := ⟨o1.os, o1.tape, o1.output, o1.size, fun k hk _ => o1.block k hk (hb k hk)⟩
  have s1 : Spl S w w1 := by
    refine ⟨ol.mono (fun k hk g => by omega), fun b hs hl => hl.only ol (fun g => by have := hl.1; omega), fun p u hp hu => ⟨u, ol.cell hu (fun g => by have := (h2 _ hp).2.1; omega), .inl rfl⟩⟩
  exact (spo_all (2 * d + 2) (2 * d + 1) (by omega) c w1 S (h1.keep s1) (fun b hs => s1.2.1 b hs (h2 b hs).2)).mono fun e w' g => ⟨g.1, g.2.out.1⟩
/-- the numbers of the boxes, and what Boxes says beside -/
def zsV (d : Nat) (a : Vt) : List Int := if sdB (2 * d + 1) (nm d false a) then bxL (2 * d + 1) false (nm d false a) else []
theorem zsV_len (d : Nat) (a : Vt) : (zsV d a).length ≤ 1024 := by
  unfold zsV
  split
  · rename_i h
    exact (sd_bx h).2
  · exact Nat.zero_le _
theorem vk_boxes {a : Vt} {x : Value} {d B : Nat} {w : World} (h : XvAt w B d a x) (sa : SmT d a) (hT : Tb w) (w1 : World) (o1 : Only (fun _ => False) w w1) :
    Calls Tryz.prog 24 #[x] w1 (BoxIs (if sdB (2 * d + 1) (nm d false a) then 0 else 1) (zsV d a) w1) := by
  obtain ⟨S, h1, h2⟩ := h
  exact vboxes_any (h1.only o1 (fun _ _ g => g)) (fun b hb => Nat.lt_of_lt_of_le (h2 b hb).2.1 o1.size) ⟨d, nm_sm d false a sa⟩ (hT.frame o1)
theorem vk_list {a : Vt} {x : Value} {d B : Nat} {w : World} (h : XvAt w B d a x) (sa : SmT d a) (hT : Tb w) (w1 : World) (o1 : Only (fun _ => False) w w1) :
    Calls Tryz.prog 13 #[x] w1 fun e w' => ∃ ao cap, e = .returned (.tuple #[.slice ao (zsV d a).length cap, .bool true]) ∧ Hid (w'.ownsRow w1.heap.size 3 1 (.slice ao (zsV d a).length cap) (zsV d a).length ((zsV d a).map (Value.int .i64)) ∧ Only (fun _ => False) w1 w') := by
  have hsh : x = .nilIface ∨ ∃ T y, x = .iface T y := by obtain ⟨_, t, _⟩ := h; exact t.shape
  refine ((callsIn_wide (n := 6)).1 (boxes_core (zsV d a) (zsV_len d a) _ x w1 hsh (fun w2 o2 => (callsIn_wide (n := 5)).2 (vk_boxes h sa hT w2 (o1.trans o2 (fun _ _ g => g)))))).mono fun e w' g => ?_
  obtain ⟨v, rfl, g1, g2⟩ := g
  obtain ⟨ao, cap, rfl⟩ := ownsRow_slice g1
  exact ⟨ao, cap, rfl, g1, g2⟩
theorem vk_text {a : Vt} {x : Value} {d B : Nat} {w : World} (h : XvAt w B d a x) (sa : SmT d a) (hT : Tx w) (w1 : World) (o1 : Only (fun _ => False) w w1) :
    Calls Tryz.prog 12 #[x] w1 fun e w' => ∃ v, e = .returned v ∧ Only (fun _ => False) w1 w' := by
  obtain ⟨S, h1, h2⟩ := h
  exact (vtext_any (h1.only o1 (fun _ _ g => g)) (fun b hb => Nat.lt_of_lt_of_le (h2 b hb).2.1 o1.size) ⟨d, nm_sm d false a sa⟩ (hT.frame o1)).mono fun e w' g => ⟨_, g.1, g.2⟩
theorem vk_equal {a : Vt} {x : Value} {d B : Nat} {w : World} (h : XvAt w B d a x) (sa : SmT d a) (hT : Tb w) (w1 : World) (o1 : Only (fun _ => False) w w1) :
    Calls Tryz.prog 25 #[x, x] w1 fun e w' => ∃ v, e = .returned v ∧ Only (fun _ => False) w1 w' := by
  obtain ⟨S, h1, h2⟩ := h
  have := h1.only o1 (fun _ _ g => g)
  exact (vequal_any this this (fun b hb => Nat.lt_of_lt_of_le (h2 b hb).2.1 o1.size) ⟨d, nm_sm d false a sa⟩ ⟨d, nm_sm d false a sa⟩ (hT.frame o1)).mono fun e w' g => ⟨_, g.1, g.2⟩
/-- A counter at block nb; nothing else was turned. -/
structure CtV (wl : World) (nb : Nat) (pre : List Nat) (W : World) : Prop where
  box : Boxed W nb 3 (.int .i64 (pre.length : Nat))
  only : Only (fun k => k = nb) wl W
theorem CtV.frame {wl W W' : World} {nb : Nat} {pre : List Nat} {row : Option Nat} (h : CtV wl nb pre W) (hb : nb < wl.heap.size) (hg : W.grownBy W' row) (hr : ∀ r, row = some r → wl.heap.size ≤ r ∧ ∃ o : Obj, W.heap[r]? = some o ∧ o.isCells = false) : CtV wl nb pre W' :=
  ⟨h.box.kept hg (fun e => by have := (hr nb e.symm).1; omega), h.only.grown hg (fun k e hk => by have := (hr k e).1; omega)⟩
/-- What the two rounds want: the bound, the result, the numbers wanted, the iterator. -/
structure KvAt (w W : World) (zs : List Int) (Bs Pb : Nat) (sv : Value) (bw : Nat) (aw : Option Addr) (cw : Nat) (cut : Int) : Prop where
  cutB : Boxed W (w.heap.size + 1) 3 (.int .i64 cut)
  resB : Boxed W (w.heap.size + 2) 4 (.bool false)
  want : Boxed W bw 37 (.slice aw zs.length cw)
  row : ∃ g o, (0 < zs.length → aw = some ⟨g, o, none⟩) ∧ ∀ j, j < zs.length → W.cell? ⟨g, o + j, none⟩ = some (.int .i64 (zs.getD j 0))
  it : W.cell? ⟨Bs, 0, none⟩ = some sv
  ints : IntsIn W Pb sv zs
  pb : Pb < W.heap.size
  len : zs.length ≤ 1024
  only : Only (fun k => w.heap.size ≤ k) w W
theorem KvAt.frame {w W W' : World} {zs : List Int} {Bs Pb : Nat} {sv : Value} {bw : Nat} {aw : Option Addr} {cw : Nat} {cut : Int} {bs : Nat → Prop} (h : KvAt w W zs Bs Pb sv bw aw cw cut) (ho : Only bs W W') (hb : ∀ k, k < W.heap.size → ¬ bs k) : KvAt w W' zs Bs Pb sv bw aw cw cut := by
  have bx : ∀ {b t v}, Boxed W b t v → Boxed W' b t v := fun {b t v} hx => by
    unfold Boxed at hx ⊢
    have := (Array.getElem?_eq_some_iff.1 hx).1
    rw [ho.block b this (hb b this)]
    exact hx
  have cl : ∀ {a v}, W.cell? a = some v → W'.cell? a = some v := fun {a v} hx => ho.cell hx (hb _ (World.block_lt_of_cell? W _ hx))
  obtain ⟨g, o, r1, r2⟩ := h.row
  refine ⟨bx h.cutB, bx h.resB, bx h.want, ⟨g, o, r1, fun j hj => cl (r2 j hj)⟩, cl h.it, ?_, Nat.lt_of_lt_of_le h.pb ho.size, h.len, h.only.trans ho (fun k hk e => absurd e (hb k (Nat.lt_of_lt_of_le hk h.only.size)))⟩
  rcases h.ints with q | ⟨off, cap, q1, q2⟩
  · exact .inl q
  · exact .inr ⟨off, cap, q1, fun j hj => cl (q2 j hj)⟩
end Go.Proofs.YtllpacppedobjaaGreatDoor
namespace Go.Proofs.YtllpacppedobjaaGreatDoor
open Go.RowKit Go.Lib
set_option linter.unusedSimpArgs false
set_option linter.unusedVariables false
theorem td_small {u : Nat} (h : u < 10) : decDigits u = [UInt8.ofNat (48 + u)] := by
  rw [decDigits]
  simp [h]
theorem td_big {u : Nat} (h : ¬ u < 10) : decDigits u = decDigits (u / 10) ++ [UInt8.ofNat (48 + u % 10)] := by
  rw [decDigits]
  simp [h]
/-- digits under way: m is still to be laid -/
def DdI (U m : Nat) (l : List UInt8) : Prop := (l = [] ∧ m = U) ∨ (l ≠ [] ∧ decDigits U = (if 0 < m then decDigits m else []) ++ l)
theorem DdI.more {U m : Nat} {l : List UInt8} (h : DdI U m l) (hm : 0 < m ∨ l = []) : DdI U (m / 10) (UInt8.ofNat (48 + m % 10) :: l) := by
  have key : ∀ m, (0 < m ∨ l = []) → decDigits m ++ l = (if 0 < m / 10 then decDigits (m / 10) else []) ++ (UInt8.ofNat (48 + m % 10) :: l) := fun m _ => by
    by_cases h10 : m < 10
    · rw [td_small h10, if_neg (by omega), show m % 10 = m by omega]
      rfl
    · rw [td_big h10, if_pos (by omega), List.append_assoc]
      rfl
  refine .inr ⟨by simp, ?_⟩
  rcases h with ⟨rfl, rfl⟩ | ⟨h1, h2⟩
  · have := key m hm
    rwa [List.append_nil] at this
  · rcases hm with hm | hm
    · rw [h2, if_pos hm]
      exact key m (.inl hm)
    · exact absurd hm h1
theorem DdI.len {U m : Nat} {l : List UInt8} (h : DdI U m l) : l.length ≤ (decDigits U).length := by
  rcases h with ⟨rfl, _⟩ | ⟨_, h⟩
  · exact Nat.zero_le _
  · rw [h, List.length_append]
    omega
theorem ba_cons (b : UInt8) (l : List UInt8) : (⟨#[b]⟩ : ByteArray) ++ (⟨l.toArray⟩ : ByteArray) = ⟨(b :: l).toArray⟩ := by
  apply ByteArray.ext
  simp
set_option maxRecDepth 100000 in
set_option maxHeartbeats 2000000 in
theorem dec_any {U : Nat} (hU : U ≤ 9223372036854775808) (hl : (decDigits U).length ≤ 21) (w : World) :
    Calls Tryz.prog 56 #[.int .u64 (U : Int)] w fun e w' => e = .returned (.string ⟨(decDigits U).toArray⟩) ∧ Only (fun _ => False) w w' := by
  have HO : Hid (Only (fun _ => False) w w) := Only.refl _ _
  have HU : Hid (U ≤ 9223372036854775808 ∧ (decDigits U).length ≤ 21) := ⟨hU, hl⟩
  clear hU hl
  go_enter Tryz.func56, Tryz.ntmps56
  go_wp2
  go_loopw [0, 3] (fun u s w' => ∃ (m : Nat) (l : List UInt8), u = .int .u64 (m : Nat) ∧ s = .string ⟨l.toArray⟩ ∧ Hid (DdI U m l ∧ m ≤ U ∧ Only (fun _ => False) w w')) (fun u s _ => uOf u + sOf s)
  case atStart => exact ⟨U, [], rfl, rfl, .inl ⟨rfl, rfl⟩, Nat.le_refl _, HO.out⟩
  case round =>
    obtain ⟨m, l, rfl, rfl, HI⟩ := hrel
    have hd10 : m % 10 < 10 := Nat.mod_lt _ (by omega)
    have hll : l.length ≤ 21 := Nat.le_trans HI.out.1.len HU.out.2
    have hcv : ∀ W : World, (convert 105 9 (.slice (some ⟨W.heap.size, 0, none⟩) 1 1)).run Tryz.prog (W.alloc (.cells #[.int .u8 (48 + (m : Int) % 10)] 5)) = .ok (.string ⟨#[UInt8.ofNat (48 + m % 10)]⟩) (W.alloc (.cells #[.int .u8 (48 + (m : Int) % 10)] 5)) := fun W => one_byte hd10 W
    have had : ∀ W : World, (Op.stringOp .add (⟨#[UInt8.ofNat (48 + m % 10)]⟩ : ByteArray) ⟨l.toArray⟩).run Tryz.prog W = .ok (.string ⟨(UInt8.ofNat (48 + m % 10) :: l).toArray⟩) W := fun W => by
      rw [run_string_add_sum, ba_cons]
      have e : (ByteArray.mk #[UInt8.ofNat (48 + m % 10)]).size = 1 := rfl
      have e2 : (ByteArray.mk l.toArray).size = l.length := by show l.toArray.size = _; simp
      omega
    have HN : Hid ((0 < m ∨ l = []) → DdI U (m / 10) (UInt8.ofNat (48 + m % 10) :: l) ∧ m / 10 ≤ U ∧ Only (fun _ => False) w (wr.alloc (.cells #[.int .u8 (48 + (m : Int) % 10)] 5))) := fun g => ⟨HI.out.1.more g, by have := HI.out.2.1; omega, HI.out.2.2.alloc _⟩
    have hmU : m ≤ 9223372036854775808 := Nat.le_trans HI.out.2.1 HU.out.1
    have e3 : IntKind.u64.wrap ((m : Int) / 10) = ((m / 10 : Nat) : Int) := by rw [IntKind.wrap_u64]; omega
    obtain ⟨D, hD⟩ : ∃ D, D = (⟨#[UInt8.ofNat (48 + m % 10)]⟩ : ByteArray) := ⟨_, rfl⟩
    obtain ⟨l', hl'⟩ : ∃ l', l' = UInt8.ofNat (48 + m % 10) :: l := ⟨_, rfl⟩
    have HS : Hid (1 ≤ (ByteArray.mk l'.toArray).size) := by show 1 ≤ l'.toArray.size; rw [hl']; simp
    rw [← hD, ← hl'] at had
    rw [← hD] at hcv
    rw [← hl'] at HN
    clear hD hd10 hl'
    by_cases hm : 0 < m
    · have i1 : (0 : Int) < (m : Int) := by omega
      clear HI hll
      go_wp2
      go_roundw
      case rel => exact ⟨m / 10, l', by first | rfl | go_num, rfl, HN.out (.inl hm)⟩
      case measure =>
        have := HS.out
        simp only [uOf, sOf] at this ⊢
        omega
    · have i1 : ¬ (0 : Int) < (m : Int) := by omega
      have i0 : Hid (m = 0) := (by omega : m = 0)
      by_cases hs : l = []
      · subst hs
        clear HI hll
        go_wp2
        go_roundw
        case rel => exact ⟨m / 10, l', by first | rfl | go_num, rfl, HN.out (.inr rfl)⟩
        case measure =>
          have := HS.out
          have e0 : (ByteArray.mk #[]).size = 0 := rfl
          have i0' : m = 0 := i0.out
          simp only [uOf, sOf, e0] at this ⊢
          omega
      · have hz2 : (ByteArray.mk l.toArray).toList.isEmpty = false := by
          rw [ByteArray.toList_eq]
          cases l with
          | nil => exact absurd rfl hs
          | cons a b => rfl
        have HE : Hid (decDigits U = l ∧ Only (fun _ => False) w wr) := by
          refine ⟨?_, HI.out.2.2⟩
          rcases HI.out.1 with ⟨g, _⟩ | ⟨_, g⟩
          · exact absurd g hs
          · rw [g, if_neg (by omega)]
            rfl
        obtain ⟨Lb, hLb⟩ : ∃ Lb, Lb = (ByteArray.mk l.toArray) := ⟨_, rfl⟩
        rw [← hLb] at hz2 had ⊢
        have HF : Hid ((ByteArray.mk (decDigits U).toArray) = Lb) := by show (ByteArray.mk (decDigits U).toArray) = Lb; rw [HE.out.1, hLb]
        clear HI HN HS hs hll hm hLb had hcv
        go_wp2
        go_ret
        exact ⟨by rw [show _ = Lb from HF.out]; rfl, HE.out.2⟩
theorem dd_len {U : Nat} (hU : U ≤ 9223372036854775808) : (decDigits U).length ≤ 21 := by
  by_cases h0 : U = 0
  · subst h0
    rw [td_small (by omega)]
    decide
  · have := itoa_length_le (-(U : Int)) (by omega) (by omega)
    rw [itoa_neg U (by omega), List.length_cons] at this
    omega
set_option maxRecDepth 100000 in
theorem signed_any {n : Int} (h1 : -9223372036854775808 ≤ n) (h2 : n ≤ 9223372036854775807) (w : World) :
    Calls Tryz.prog 38 #[.int .i64 n] w fun e w' => e = .returned (.string ⟨(itoa n).toArray⟩) ∧ Only (fun _ => False) w w' := by
  obtain ⟨U, hU⟩ : ∃ U, U = n.natAbs := ⟨_, rfl⟩
  have hle : U ≤ 9223372036854775808 := by omega
  have HC : Hid _ := dec_any hle (dd_len hle) w
  by_cases hn : n < 0
  · have e1 : IntKind.u64.wrap n = n + 18446744073709551616 := by rw [IntKind.wrap_u64]; omega
    have e2 : IntKind.u64.wrap (-(n + 18446744073709551616)) = (U : Int) := by rw [IntKind.wrap_u64]; omega
    have hit : itoa n = 45 :: decDigits U := by unfold itoa; rw [if_pos hn, hU]
    have hdl := dd_len hle
    rw [hit]
    obtain ⟨l, hl⟩ : ∃ l, l = decDigits U := ⟨_, rfl⟩
    rw [← hl] at HC hdl ⊢
    have had : ∀ W : World, (Op.stringOp .add (⟨#[45]⟩ : ByteArray) ⟨l.toArray⟩).run Tryz.prog W = .ok (.string ⟨(45 :: l).toArray⟩) W := fun W => by
      rw [run_string_add_sum, ba_cons]
      have e : (ByteArray.mk #[45]).size = 1 := rfl
      have e2 : (ByteArray.mk l.toArray).size = l.length := by show l.toArray.size = _; simp
      omega
    clear hU hle hit hdl hl h1 h2
    go_enter Tryz.func38, Tryz.ntmps38
    go_wp2_with fail
    refine (show Calls Tryz.prog 56 _ _ _ from HC.out).mono ?_
    rintro e w1 ⟨rfl, o1⟩
    have O1 : Hid (Only (fun _ => False) w w1) := o1
    clear HC o1
    go_wp2
    go_ret
    exact ⟨rfl, O1.out⟩
  · have e1 : IntKind.u64.wrap n = (U : Int) := by rw [IntKind.wrap_u64]; omega
    have hit : itoa n = decDigits U := by unfold itoa; rw [if_neg hn]; congr 1; omega
    rw [hit]
    obtain ⟨l, hl⟩ : ∃ l, l = decDigits U := ⟨_, rfl⟩
    rw [← hl] at HC ⊢
    clear hU hle hit hl h1 h2
    go_enter Tryz.func38, Tryz.ntmps38
    go_wp2_with fail
    refine (show Calls Tryz.prog 56 _ _ _ from HC.out).mono ?_
    rintro e w1 ⟨rfl, o1⟩
    have O1 : Hid (Only (fun _ => False) w w1) := o1
    clear HC o1
    go_wp2
    go_ret
    exact ⟨rfl, O1.out⟩
end Go.Proofs.YtllpacppedobjaaGreatDoor
