/- Many values as trees: Trees, ItemTrees. Trees of values, and depths. The document's SameAll: the loop. Forms that were read, as what may be written over. The numbers by which the library's contract on strconv.FormatInt stands over this program. What stands for a text: Quoted. The text of a value that holds no others, as parse writes it. -/
import Derived.Test.YtmpfbjmaiddigaaGreatDoorGat
import Derived.Test.YtmpfbjmaiddigaaGreatDoorGas
import Derived.Deep.RegionHeld3
import Derived.Test.YtmpfbjmaiddigaaGreatDoorGah
import Derived.Test.YtmpfbjmaiddigaaGreatDoorGar
import Derived.Shelf.Strconv.Itoa4
import Derived.Shelf.Strings.OnBuilder
import Derived.Test.YtmpfbjmaiddigaaGreatDoorProg
import Derived.Test.YtmpfbjmaiddigaaGreatDoorGal
import Derived.Test.YtmpfbjmaiddigaaGreatDoorGaf
import Derived.Lib.ItoaLen
namespace Go.Proofs.YtmpfbjmaiddigaaGreatDoor
open Go.RowKit
set_option linter.unusedSimpArgs false
set_option linter.unusedVariables false
set_option maxRecDepth 100000 in
theorem uv_info : ∃ i z, Tryz.prog.info? 54 = some i ∧ i.zero = some z ∧ i.size = 4 ∧ i.bytes = 56 ∧ z.cells.size = 4 := ⟨_, _, rfl, rfl, rfl, rfl, rfl⟩
set_option maxRecDepth 100000 in
set_option maxHeartbeats 4000000 in
theorem utrees_of (d : Nat) (H : TuE d 31 false) : TuS d 48 false := by
  intro v l w S hq hl hw
  obtain ⟨av, cv, rfl, hcv, hel⟩ := hq
  have HE : Hid (∀ (j : Nat) (x : Vt), l[j]? = some x → ∃ g k u, av = some ⟨g, k, none⟩ ∧ w.cell? ⟨g, k + j, none⟩ = some u ∧ ∀ w1, Only (fun _ => False) w w1 → Calls Tryz.prog 31 #[u] w1 fun e w' => ∃ lv, e = .returned (.agg #[.int .i64 x.k, .int .i64 (x.n), .string (x.s), lv]) ∧ Hid (NuAt w' w1.heap.size d x lv ∧ Only (fun _ => False) w1 w')) := by
    intro j x hx
    obtain ⟨g, k, u, ha, hg, hc, ht⟩ := hel j x hx
    exact ⟨g, k, u, ha, hc, fun w1 o1 => H u x w1 S (ht.step (fun _ g => g) (fun a u _ hc => o1.cell hc (fun g => g)) (Nat.le_refl _)) (hw x (List.mem_of_getElem? hx))⟩
  have HLB : Hid (l.length ≤ 2513169434900) := hl
  clear hcv hel hl hw H
  obtain ⟨N, hN⟩ : ∃ N, N = l.length := ⟨_, rfl⟩
  have HNN : Hid (N = l.length) := hN
  rw [← hN]
  clear hN
  go_enter Tryz.func48, Tryz.ntmps48
  go_wp2
  go_loopw [3, 4] (fun r3 r4 wr => ∃ (i : Nat) (ao : Option Addr) (cap : Nat), r3 = .slice ao i cap ∧ r4 = .int .i64 (i : Int) ∧ i ≤ N ∧ Hid (UrAt wr w.heap.size d (.slice ao i cap) (l.take i) ∧ Only (fun _ => False) w wr)) (fun _ r4 _ => N - vuOf r4)
  case atStart => exact ⟨0, none, 0, rfl, rfl, Nat.zero_le _, ur_nil _ _ _, Only.refl _ _⟩
  case round =>
    obtain ⟨i, ao, cap, rfl, rfl, hi, HI⟩ := hrel
    obtain ⟨w1, rfl⟩ : ∃ w1, w1 = wr := ⟨_, rfl⟩
    have hNl : N = l.length := HNN.out
    have hN4 : l.length ≤ 2513169434900 := HLB.out
    by_cases hiN : i < N
    · obtain ⟨x, hx⟩ : ∃ x, l[i]? = some x := ⟨l[i]'(by omega), List.getElem?_eq_getElem (by omega)⟩
      obtain ⟨g, k, u, rfl, hc, hcall⟩ := HE.out i x hx
      have hc1 : w1.cell? ⟨g, k + i, none⟩ = some u := HI.out.2.cell hc (fun g => g)
      have HC : Hid (Calls Tryz.prog 31 #[u] w1 fun e w' => ∃ lv, e = .returned (.agg #[.int .i64 x.k, .int .i64 (x.n), .string (x.s), lv]) ∧ Hid (NuAt w' w1.heap.size d x lv ∧ Only (fun _ => False) w1 w')) := hcall w1 HI.out.2
      have HX : Hid (l.take i ++ [x] = l.take (i + 1) ∧ (l.take i).length = i) := by
        have hil : i < l.length := by omega
        refine ⟨?_, by simp; omega⟩
        rw [List.take_add_one, hx]
        rfl
      have HB : Hid (i < N ∧ N ≤ 2513169434900) := ⟨hiN, by omega⟩
      have i1 : (i : Int) < (N : Int) := by omega
      have i0 : (0 : Int) ≤ (i : Int) := by omega
      clear hc hcall HE hNl hN4 hx
      obtain ⟨x0, hx0⟩ : ∃ x0, x0 = x.k := ⟨_, rfl⟩
      obtain ⟨x1, hx1⟩ : ∃ x1, x1 = x.n := ⟨_, rfl⟩
      obtain ⟨x2, hx2⟩ : ∃ x2, x2 = x.s := ⟨_, rfl⟩
      have HXX : Hid (x0 = x.k ∧ x1 = x.n ∧ x2 = x.s) := ⟨hx0, hx1, hx2⟩
      rw [← hx0, ← hx1, ← hx2] at HC
      clear hx0 hx1 hx2
      go_wp2_with fail
      refine (show Calls Tryz.prog 31 _ _ _ from HC.out).mono ?_
      rintro e w2 ⟨lv, rfl, g2⟩
      obtain ⟨al, cl, hlv⟩ := g2.out.1.form
      have W4 : UrAt (w2.alloc (.cells #[.int .i64 x0, .int .i64 x1, .string x2, lv] 54)) w.heap.size d (.slice ao i cap) (l.take i) := (HI.out.1.only g2.out.2 (fun _ _ h => h)).only ((Only.refl (fun _ => False) w2).alloc _) (fun _ _ h => h)
      have N4 : NuAt (w2.alloc (.cells #[.int .i64 x0, .int .i64 x1, .string x2, lv] 54)) w1.heap.size d x lv := g2.out.1.only ((Only.refl (fun _ => False) w2).alloc _) (fun _ _ h => h)
      have O4 : Only (fun _ => False) w (w2.alloc (.cells #[.int .i64 x0, .int .i64 x1, .string x2, lv] 54)) := (HI.out.2.trans g2.out.2 (fun _ _ g => g)).alloc _
      have hlt : ∀ k, (Value.slice ao i cap).ownBlock = some k → k < w1.heap.size := fun k hk => by
        obtain ⟨us, S', hr, _⟩ := HI.out.1
        exact (hr.lt k hk).2
      have hsz1 : w.heap.size ≤ w1.heap.size := HI.out.2.size
      have hsz2 : w1.heap.size ≤ w2.heap.size := g2.out.2.size
      obtain ⟨us, SS, hown, htr, hSS⟩ := W4
      rw [HX.out.2] at hown
      have HOW : Hid ((w2.alloc (.cells #[.int .i64 x0, .int .i64 x1, .string x2, lv] 54)).ownsRow w.heap.size 54 4 (.slice ao i cap) i us) := hown
      have HAL : Hid (_ ∧ _ ∧ NuAt (w2.alloc (.cells #[.int .i64 x0, .int .i64 x1, .string x2, lv] 54)) w1.heap.size d x lv ∧ Only (fun _ => False) w (w2.alloc (.cells #[.int .i64 x0, .int .i64 x1, .string x2, lv] 54)) ∧ w.heap.size ≤ w1.heap.size ∧ (∀ k, (Value.slice ao i cap).ownBlock = some k → k < w1.heap.size)) := ⟨htr, hSS, N4, O4, hsz1, hlt⟩
      subst hlv
      obtain ⟨i0', z0, hi', hz0, hz1, hz2, hz3⟩ := uv_info
      obtain ⟨xl, hxl⟩ : ∃ xl, xl = x.l.length := ⟨_, rfl⟩
      rw [← hxl] at HOW HAL
      rw [← hxl]
      clear N4 O4 hown htr hSS hlt g2 HI HC hxl
      go_wp2_with (at_builtin; refine wpList_append_own_at _ rfl _ _ 22 rfl w.heap.size 54 i0' z0 4 56 Tryz.underlying22 hi' hz0 hz1 hz2 hz3 (by decide) _ i us rfl HOW.out ⟨w2.heap.size, 0, none⟩ 1 1 [.int .i64 x0, .int .i64 x1, .string x2, .slice al xl cl] rfl rfl ?c1 ?c2 ?c3 ?c4 ?c5 ?_)
      case c1 =>
        intro j u hj
        rcases j with _ | _ | _ | _ | j <;> simp at hj <;> subst hj <;> simp [Addr.add]
      case c2 =>
        intro u hu
        simp only [List.mem_cons, List.not_mem_nil, or_false] at hu
        rcases hu with rfl | rfl | rfl | rfl <;> rfl
      case c3 => have := HB.out; unfold maxLen; omega
      case c4 => have := HB.out; omega
      case c5 => simp; omega
      intro v' w4 hown' hgrow _ hat
      obtain ⟨a1, a2, a3, a4, a5, a6⟩ := HAL.out
      obtain ⟨e0, e1, e2⟩ := HXX.out
      have W5 : UrAt w4 w.heap.size d v' (l.take i ++ [x]) := UrAt.snoc hgrow (by rw [HX.out.2]; exact HOW.out) a1 a2 a3 a5 a6 (by rw [HX.out.2, ← e0, ← e1, ← e2]; exact hown') (by simpa using hat)
      rw [HX.out.1] at W5
      have og : Only (fun k => (Value.slice ao i cap).ownBlock = some k) (w2.alloc (.cells #[.int .i64 x0, .int .i64 x1, .string x2, .slice al xl cl] 54)) w4 := (Only.refl _ _).grown hgrow (fun k e _ => e)
      have O5 : Only (fun _ => False) w w4 := a4.trans og (fun k hk e => by have := (HOW.out.lt k e).1; omega)
      obtain ⟨ao', cap', hv'⟩ := W5.form
      have hlen : (l.take (i + 1)).length = i + 1 := by have : N = l.length := HNN.out; have := HB.out; simp; omega
      rw [hlen] at hv'
      subst hv'
      have HK5 : Hid (UrAt w4 w.heap.size d (.slice ao' (i + 1) cap') (l.take (i + 1)) ∧ Only (fun _ => False) w w4) := ⟨W5, O5⟩
      clear W5 O5 og HAL HOW hown' hgrow hat a1 a2 a3 a4 a5 a6 hi' hz0 hz1 hz2 hz3 hsz1 hsz2 e0 e1 e2 HXX hlen
      have hi4 : i ≤ 2513169434900 := by have := HB.out; omega
      go_wp2
      go_roundw
      case rel => exact ⟨i + 1, ao', cap', rfl, by go_num, by omega, HK5⟩
      case measure => simp only [vuOf]; have := HB.out; omega
    · obtain rfl : i = N := by omega
      have i1 : ¬ (i : Int) < (i : Int) := by omega
      have HK : Hid (UrAt w1 w.heap.size d (.slice ao i cap) l ∧ Only (fun _ => False) w w1) := by
        have := HI.out
        rw [hNl, List.take_length, ← hNl] at this
        exact this
      clear HI hNl hN4
      go_wp2
      go_ret
      exact ⟨ao, cap, rfl, HK⟩
set_option maxRecDepth 100000 in
set_option maxHeartbeats 4000000 in
theorem uitrees_of (d : Nat) (H : TuE d 16 true) : TuS d 6 true := by
  intro v l w S hq hl hw
  obtain ⟨av, cv, rfl, hcv, hel⟩ := hq
  have HE : Hid (∀ (j : Nat) (x : Vt), l[j]? = some x → ∃ g k u, av = some ⟨g, k, none⟩ ∧ w.cell? ⟨g, k + j, none⟩ = some u ∧ ∀ w1, Only (fun _ => False) w w1 → Calls Tryz.prog 16 #[u] w1 fun e w' => ∃ lv, e = .returned (.agg #[.int .i64 x.k, .int .i64 (x.n), .string (x.s), lv]) ∧ Hid (NuAt w' w1.heap.size d x lv ∧ Only (fun _ => False) w1 w')) := by
    intro j x hx
    obtain ⟨g, k, u, ha, hg, hc, ht⟩ := hel j x hx
    exact ⟨g, k, u, ha, hc, fun w1 o1 => H u x w1 S (ht.step (fun _ g => g) (fun a u _ hc => o1.cell hc (fun g => g)) (Nat.le_refl _)) (hw x (List.mem_of_getElem? hx))⟩
  have HLB : Hid (l.length ≤ 2513169434900) := hl
  clear hcv hel hl hw H
  obtain ⟨N, hN⟩ : ∃ N, N = l.length := ⟨_, rfl⟩
  have HNN : Hid (N = l.length) := hN
  rw [← hN]
  clear hN
  go_enter Tryz.func6, Tryz.ntmps6
  go_wp2
  go_loopw [3, 4] (fun r3 r4 wr => ∃ (i : Nat) (ao : Option Addr) (cap : Nat), r3 = .slice ao i cap ∧ r4 = .int .i64 (i : Int) ∧ i ≤ N ∧ Hid (UrAt wr w.heap.size d (.slice ao i cap) (l.take i) ∧ Only (fun _ => False) w wr)) (fun _ r4 _ => N - vuOf r4)
  case atStart => exact ⟨0, none, 0, rfl, rfl, Nat.zero_le _, ur_nil _ _ _, Only.refl _ _⟩
  case round =>
    obtain ⟨i, ao, cap, rfl, rfl, hi, HI⟩ := hrel
    obtain ⟨w1, rfl⟩ : ∃ w1, w1 = wr := ⟨_, rfl⟩
    have hNl : N = l.length := HNN.out
    have hN4 : l.length ≤ 2513169434900 := HLB.out
    by_cases hiN : i < N
    · obtain ⟨x, hx⟩ : ∃ x, l[i]? = some x := ⟨l[i]'(by omega), List.getElem?_eq_getElem (by omega)⟩
      obtain ⟨g, k, u, rfl, hc, hcall⟩ := HE.out i x hx
      have hc1 : w1.cell? ⟨g, k + i, none⟩ = some u := HI.out.2.cell hc (fun g => g)
      have HC : Hid (Calls Tryz.prog 16 #[u] w1 fun e w' => ∃ lv, e = .returned (.agg #[.int .i64 x.k, .int .i64 (x.n), .string (x.s), lv]) ∧ Hid (NuAt w' w1.heap.size d x lv ∧ Only (fun _ => False) w1 w')) := hcall w1 HI.out.2
      have HX : Hid (l.take i ++ [x] = l.take (i + 1) ∧ (l.take i).length = i) := by
        have hil : i < l.length := by omega
        refine ⟨?_, by simp; omega⟩
        rw [List.take_add_one, hx]
        rfl
      have HB : Hid (i < N ∧ N ≤ 2513169434900) := ⟨hiN, by omega⟩
      have i1 : (i : Int) < (N : Int) := by omega
      have i0 : (0 : Int) ≤ (i : Int) := by omega
      clear hc hcall HE hNl hN4 hx
      obtain ⟨x0, hx0⟩ : ∃ x0, x0 = x.k := ⟨_, rfl⟩
      obtain ⟨x1, hx1⟩ : ∃ x1, x1 = x.n := ⟨_, rfl⟩
      obtain ⟨x2, hx2⟩ : ∃ x2, x2 = x.s := ⟨_, rfl⟩
      have HXX : Hid (x0 = x.k ∧ x1 = x.n ∧ x2 = x.s) := ⟨hx0, hx1, hx2⟩
      rw [← hx0, ← hx1, ← hx2] at HC
      clear hx0 hx1 hx2
      go_wp2_with fail
      refine (show Calls Tryz.prog 16 _ _ _ from HC.out).mono ?_
      rintro e w2 ⟨lv, rfl, g2⟩
      obtain ⟨al, cl, hlv⟩ := g2.out.1.form
      have W4 : UrAt (w2.alloc (.cells #[.int .i64 x0, .int .i64 x1, .string x2, lv] 54)) w.heap.size d (.slice ao i cap) (l.take i) := (HI.out.1.only g2.out.2 (fun _ _ h => h)).only ((Only.refl (fun _ => False) w2).alloc _) (fun _ _ h => h)
      have N4 : NuAt (w2.alloc (.cells #[.int .i64 x0, .int .i64 x1, .string x2, lv] 54)) w1.heap.size d x lv := g2.out.1.only ((Only.refl (fun _ => False) w2).alloc _) (fun _ _ h => h)
      have O4 : Only (fun _ => False) w (w2.alloc (.cells #[.int .i64 x0, .int .i64 x1, .string x2, lv] 54)) := (HI.out.2.trans g2.out.2 (fun _ _ g => g)).alloc _
      have hlt : ∀ k, (Value.slice ao i cap).ownBlock = some k → k < w1.heap.size := fun k hk => by
        obtain ⟨us, S', hr, _⟩ := HI.out.1
        exact (hr.lt k hk).2
      have hsz1 : w.heap.size ≤ w1.heap.size := HI.out.2.size
      have hsz2 : w1.heap.size ≤ w2.heap.size := g2.out.2.size
      obtain ⟨us, SS, hown, htr, hSS⟩ := W4
      rw [HX.out.2] at hown
      have HOW : Hid ((w2.alloc (.cells #[.int .i64 x0, .int .i64 x1, .string x2, lv] 54)).ownsRow w.heap.size 54 4 (.slice ao i cap) i us) := hown
      have HAL : Hid (_ ∧ _ ∧ NuAt (w2.alloc (.cells #[.int .i64 x0, .int .i64 x1, .string x2, lv] 54)) w1.heap.size d x lv ∧ Only (fun _ => False) w (w2.alloc (.cells #[.int .i64 x0, .int .i64 x1, .string x2, lv] 54)) ∧ w.heap.size ≤ w1.heap.size ∧ (∀ k, (Value.slice ao i cap).ownBlock = some k → k < w1.heap.size)) := ⟨htr, hSS, N4, O4, hsz1, hlt⟩
      subst hlv
      obtain ⟨i0', z0, hi', hz0, hz1, hz2, hz3⟩ := uv_info
      obtain ⟨xl, hxl⟩ : ∃ xl, xl = x.l.length := ⟨_, rfl⟩
      rw [← hxl] at HOW HAL
      rw [← hxl]
      clear N4 O4 hown htr hSS hlt g2 HI HC hxl
      go_wp2_with (at_builtin; refine wpList_append_own_at _ rfl _ _ 22 rfl w.heap.size 54 i0' z0 4 56 Tryz.underlying22 hi' hz0 hz1 hz2 hz3 (by decide) _ i us rfl HOW.out ⟨w2.heap.size, 0, none⟩ 1 1 [.int .i64 x0, .int .i64 x1, .string x2, .slice al xl cl] rfl rfl ?c1 ?c2 ?c3 ?c4 ?c5 ?_)
      case c1 =>
        intro j u hj
        rcases j with _ | _ | _ | _ | j <;> simp at hj <;> subst hj <;> simp [Addr.add]
      case c2 =>
        intro u hu
        simp only [List.mem_cons, List.not_mem_nil, or_false] at hu
        rcases hu with rfl | rfl | rfl | rfl <;> rfl
      case c3 => have := HB.out; unfold maxLen; omega
      case c4 => have := HB.out; omega
      case c5 => simp; omega
      intro v' w4 hown' hgrow _ hat
      obtain ⟨a1, a2, a3, a4, a5, a6⟩ := HAL.out
      obtain ⟨e0, e1, e2⟩ := HXX.out
      have W5 : UrAt w4 w.heap.size d v' (l.take i ++ [x]) := UrAt.snoc hgrow (by rw [HX.out.2]; exact HOW.out) a1 a2 a3 a5 a6 (by rw [HX.out.2, ← e0, ← e1, ← e2]; exact hown') (by simpa using hat)
      rw [HX.out.1] at W5
      have og : Only (fun k => (Value.slice ao i cap).ownBlock = some k) (w2.alloc (.cells #[.int .i64 x0, .int .i64 x1, .string x2, .slice al xl cl] 54)) w4 := (Only.refl _ _).grown hgrow (fun k e _ => e)
      have O5 : Only (fun _ => False) w w4 := a4.trans og (fun k hk e => by have := (HOW.out.lt k e).1; omega)
      obtain ⟨ao', cap', hv'⟩ := W5.form
      have hlen : (l.take (i + 1)).length = i + 1 := by have : N = l.length := HNN.out; have := HB.out; simp; omega
      rw [hlen] at hv'
      subst hv'
      have HK5 : Hid (UrAt w4 w.heap.size d (.slice ao' (i + 1) cap') (l.take (i + 1)) ∧ Only (fun _ => False) w w4) := ⟨W5, O5⟩
      clear W5 O5 og HAL HOW hown' hgrow hat a1 a2 a3 a4 a5 a6 hi' hz0 hz1 hz2 hz3 hsz1 hsz2 e0 e1 e2 HXX hlen
      have hi4 : i ≤ 2513169434900 := by have := HB.out; omega
      go_wp2
      go_roundw
      case rel => exact ⟨i + 1, ao', cap', rfl, by go_num, by omega, HK5⟩
      case measure => simp only [vuOf]; have := HB.out; omega
    · obtain rfl : i = N := by omega
      have i1 : ¬ (i : Int) < (i : Int) := by omega
      have HK : Hid (UrAt w1 w.heap.size d (.slice ao i cap) l ∧ Only (fun _ => False) w w1) := by
        have := HI.out
        rw [hNl, List.take_length, ← hNl] at this
        exact this
      clear HI hNl hN4
      go_wp2
      go_ret
      exact ⟨ao, cap, rfl, HK⟩
theorem utrees_any : ∀ (d d' : Nat), d' < d → TuE d' 31 false ∧ TuE d' 16 true
  | 0, d', h => by omega
  | d + 1, d', h => by
    have ih := utrees_any d
    by_cases hd : d' < d
    · exact ih d' hd
    · obtain rfl : d' = d := by omega
      cases d' with
      | zero => exact ⟨fun v t w S h => h.elim, fun v t w S h => h.elim⟩
      | succ e => exact ⟨utree_of e (utrees_of e (ih e (by omega)).1) (uitrees_of e (ih e (by omega)).2), uitree_of e (ih e (by omega)).1⟩
theorem uitrees_any (d : Nat) : TuS d 6 true := uitrees_of d (utrees_any (d + 1) d (by omega)).2
end Go.Proofs.YtmpfbjmaiddigaaGreatDoor
namespace Go.Proofs.YtmpfbjmaiddigaaGreatDoor
open Go.RowKit Go.Lib
set_option linter.unusedSimpArgs false
set_option linter.unusedVariables false
theorem LfT.mono : ∀ {d d' : Nat} {t : Vt}, d ≤ d' → LfT d t → LfT d' t
  | 0, _, _, _, h => h.elim
  | d + 1, 0, t, hd, h => by omega
  | d + 1, e + 1, t, hd, h => ⟨h.1, fun x hx => (h.2 x hx).mono (by omega)⟩
theorem tree_calls {a : Vt} {x : Value} {d B : Nat} {w : World} (h : Vx w B d a x) (sa : SmT d a) : ∀ w1, (∃ bs : Nat → Prop, Only bs w w1 ∧ ∀ b, B ≤ b → ¬ bs b) → Calls Tryz.prog 31 #[x] w1 fun e w' => ∃ lv, e = .returned (.agg #[.int .i64 (nm d false a).k, .int .i64 (nm d false a).n, .string (nm d false a).s, lv]) ∧ Hid ((∃ ao cap, lv = .slice ao (nm d false a).l.length cap) ∧ NuAt w' w1.heap.size (2 * d + 1) (nm d false a) lv ∧ Only (fun _ => False) w1 w') := fun w1 ⟨bs, o1, hb⟩ => by
  obtain ⟨S, h1, h2⟩ := h.only o1 hb
  refine ((utrees_any (2 * d + 2) (2 * d + 1) (by omega)).1 x (nm d false a) w1 S h1 ⟨d, nm_nf d false a sa⟩).mono fun e w' g => ?_
  obtain ⟨lv, he, g⟩ := g
  exact ⟨lv, he, g.out.1.form, g.out⟩
end Go.Proofs.YtmpfbjmaiddigaaGreatDoor
namespace Go.Proofs.YtmpfbjmaiddigaaGreatDoor
open Go.RowKit Go.Lib
set_option linter.unusedSimpArgs false
set_option linter.unusedVariables false
set_option maxRecDepth 100000 in
set_option maxHeartbeats 4000000 in
theorem sameall_ne (a1 a2 : Option Addr) (La Lb c1 c2 : Nat) (w : World) (h : ¬ (La : Int) = (Lb : Int)) : Calls Tryz.prog 9 #[.slice a1 La c1, .slice a2 Lb c2] w fun e w' => e = .returned (.bool false) ∧ Only (fun _ => False) w w' := by
  have O0 : Hid (Only (fun _ => False) w w) := Only.refl _ _
  go_enter Tryz.func9, Tryz.ntmps9
  go_wp2
  go_ret
  exact ⟨rfl, O0.out⟩
set_option maxRecDepth 100000 in
set_option maxHeartbeats 40000000 in
theorem dsameall_of (d : Nat) (H : DmC d) : DaC (d + 1) := by
  intro la lb va vb w S S' h1 h2 hla hlb gla glb
  obtain ⟨aa, ca, rfl, hca, ha⟩ := h1
  obtain ⟨ab, cb, rfl, hcb, hb⟩ := h2
  by_cases hlen : la.length = lb.length
  · have HE : Hid (∀ (j : Nat) (x y : Vt), la[j]? = some x → lb[j]? = some y → ∃ g k lx g' k' lx', aa = some ⟨g, k, none⟩ ∧ ab = some ⟨g', k', none⟩ ∧ (w.cell? ⟨g, k + j * 4, none⟩ = some (.int .i64 x.k) ∧ w.cell? ⟨g, k + j * 4 + 1, none⟩ = some (.int .i64 x.n) ∧ w.cell? ⟨g, k + j * 4 + 2, none⟩ = some (.string x.s) ∧ w.cell? ⟨g, k + j * 4 + 3, none⟩ = some lx) ∧ (w.cell? ⟨g', k' + j * 4, none⟩ = some (.int .i64 y.k) ∧ w.cell? ⟨g', k' + j * 4 + 1, none⟩ = some (.int .i64 y.n) ∧ w.cell? ⟨g', k' + j * 4 + 2, none⟩ = some (.string y.s) ∧ w.cell? ⟨g', k' + j * 4 + 3, none⟩ = some lx') ∧ ∀ w1, Only (fun _ => False) w w1 → Calls Tryz.prog 23 #[.agg #[.int .i64 x.k, .int .i64 x.n, .string x.s, lx], .agg #[.int .i64 y.k, .int .i64 y.n, .string y.s, lx']] w1 fun e w' => e = .returned (.bool (saV d x y)) ∧ Only (fun _ => False) w1 w') := by
      intro j x y hx hy
      obtain ⟨g, k, lx, p1, p2, p3, p4⟩ := ha j x hx
      obtain ⟨g', k', lx', q1, q2, q3, q4⟩ := hb j y hy
      exact ⟨g, k, lx, g', k', lx', p1, q1, p3, q3, fun w1 o1 => H x y lx lx' w1 S S' (p4.only o1) (q4.only o1) (gla x (List.mem_of_getElem? hx)) (glb y (List.mem_of_getElem? hy))⟩
    have HLB : Hid (la.length ≤ 2513169434900 ∧ la.length = lb.length) := ⟨hla, hlen⟩
    clear ha hb H hca hcb gla glb hla hlb
    rw [← hlen]
    obtain ⟨N, hN⟩ : ∃ N, N = la.length := ⟨_, rfl⟩
    have HNN : Hid (N = la.length) := hN
    rw [← hN]
    show Calls Tryz.prog 9 #[.slice aa N ca, .slice ab N cb] w fun e w' => e = .returned (.bool (smL (saV d) la lb)) ∧ Only (fun _ => False) w w'
    obtain ⟨R, hR⟩ : ∃ R, R = smL (saV d) la lb := ⟨_, rfl⟩
    rw [← hR]
    have HR : Hid (R = smL (saV d) (la.drop 0) (lb.drop 0)) := hR
    clear hN hlen hR
    go_enter Tryz.func9, Tryz.ntmps9
    go_wp2
    go_loopw [5] (fun r5 wr => ∃ i : Nat, r5 = .int .i64 (i : Int) ∧ i ≤ N ∧ Hid (R = smL (saV d) (la.drop i) (lb.drop i)) ∧ Hid (Only (fun _ => False) w wr)) (fun r5 _ => N - uOf r5)
    case atStart => exact ⟨0, rfl, Nat.zero_le _, HR, Only.refl _ _⟩
    case round =>
      clear HR
      obtain ⟨i, rfl, hi, HR, HI⟩ := hrel
      obtain ⟨w1, rfl⟩ : ∃ w1, w1 = wr := ⟨_, rfl⟩
      have hNl : N = la.length := HNN.out
      have hN4 : la.length ≤ 2513169434900 ∧ la.length = lb.length := HLB.out
      by_cases hiN : i < N
      · obtain ⟨x, hx⟩ : ∃ x, la[i]? = some x := ⟨la[i]'(by omega), List.getElem?_eq_getElem (by omega)⟩
        obtain ⟨y, hy⟩ : ∃ y, lb[i]? = some y := ⟨lb[i]'(by omega), List.getElem?_eq_getElem (by omega)⟩
        obtain ⟨g, k, lx, g', k', lx', rfl, rfl, ⟨h0, h1, h2, h3⟩, ⟨h4, h5, h6, h7⟩, hcall⟩ := HE.out i x y hx hy
        have o1 := HI.out
        have HS : Hid (∀ w', Only (fun _ => False) w1 w' → (w'.cell? ⟨g, k + i * 4, none⟩ = some (.int .i64 x.k) ∧ w'.cell? ⟨g, k + i * 4 + 1, none⟩ = some (.int .i64 x.n) ∧ w'.cell? ⟨g, k + i * 4 + 2, none⟩ = some (.string x.s) ∧ w'.cell? ⟨g, k + i * 4 + 3, none⟩ = some lx) ∧ (w'.cell? ⟨g', k' + i * 4, none⟩ = some (.int .i64 y.k) ∧ w'.cell? ⟨g', k' + i * 4 + 1, none⟩ = some (.int .i64 y.n) ∧ w'.cell? ⟨g', k' + i * 4 + 2, none⟩ = some (.string y.s) ∧ w'.cell? ⟨g', k' + i * 4 + 3, none⟩ = some lx')) := fun w' o => by
          have oo := o1.trans o (fun _ _ g => g)
          exact ⟨⟨oo.cell h0 (fun g => g), oo.cell h1 (fun g => g), oo.cell h2 (fun g => g), oo.cell h3 (fun g => g)⟩, ⟨oo.cell h4 (fun g => g), oo.cell h5 (fun g => g), oo.cell h6 (fun g => g), oo.cell h7 (fun g => g)⟩⟩
        obtain ⟨Z, hZ⟩ : ∃ Z, Z = saV d x y := ⟨_, rfl⟩
        rw [← hZ] at hcall
        have HR2 : Hid (R = (Z && smL (saV d) (la.drop (i + 1)) (lb.drop (i + 1)))) := by
          have := HR.out
          rw [drop_at hx, drop_at hy] at this
          rw [hZ]
          exact this
        have HCC : Hid (∀ w1, Only (fun _ => False) w w1 → Calls Tryz.prog 23 #[.agg #[.int .i64 x.k, .int .i64 x.n, .string x.s, lx], .agg #[.int .i64 y.k, .int .i64 y.n, .string y.s, lx']] w1 fun e w' => e = .returned (.bool Z) ∧ Only (fun _ => False) w1 w') := hcall
        obtain ⟨⟨c0, c1, c2, c3⟩, ⟨c4, c5, c6, c7⟩⟩ := HS.out w1 (Only.refl _ _)
        have HB : Hid (i < N ∧ N ≤ 2513169434900) := ⟨hiN, by omega⟩
        have i1 : (i : Int) < (N : Int) := by omega
        have i0 : (0 : Int) ≤ (i : Int) := by omega
        have hi4 : i ≤ 2513169434900 := by omega
        obtain ⟨x0, hx0⟩ : ∃ x0, x0 = x.k := ⟨_, rfl⟩
        obtain ⟨x1, hx1⟩ : ∃ x1, x1 = x.n := ⟨_, rfl⟩
        obtain ⟨x2, hx2⟩ : ∃ x2, x2 = x.s := ⟨_, rfl⟩
        obtain ⟨y0, hy0⟩ : ∃ y0, y0 = y.k := ⟨_, rfl⟩
        obtain ⟨y1, hy1⟩ : ∃ y1, y1 = y.n := ⟨_, rfl⟩
        obtain ⟨y2, hy2⟩ : ∃ y2, y2 = y.s := ⟨_, rfl⟩
        rw [← hx0, ← hx1, ← hx2, ← hy0, ← hy1, ← hy2] at HCC HS
        rw [← hx0] at c0
        rw [← hx1] at c1
        rw [← hx2] at c2
        rw [← hy0] at c4
        rw [← hy1] at c5
        rw [← hy2] at c6
        clear hx0 hx1 hx2 hy0 hy1 hy2 HE h0 h1 h2 h3 h4 h5 h6 h7 hcall o1 hx hy hZ hNl hN4 hi hiN HR
        go_wp2_with fail
        have OR : Hid (Only (fun _ => False) w1 w1) := Only.refl _ _
        go_region_held3 (fun w' => (w'.cell? ⟨g, k + i * 4, none⟩ = some (.int .i64 x0) ∧ w'.cell? ⟨g, k + i * 4 + 1, none⟩ = some (.int .i64 x1) ∧ w'.cell? ⟨g, k + i * 4 + 2, none⟩ = some (.string x2) ∧ w'.cell? ⟨g, k + i * 4 + 3, none⟩ = some lx) ∧ (w'.cell? ⟨g', k' + i * 4, none⟩ = some (.int .i64 y0) ∧ w'.cell? ⟨g', k' + i * 4 + 1, none⟩ = some (.int .i64 y1) ∧ w'.cell? ⟨g', k' + i * 4 + 2, none⟩ = some (.string y2) ∧ w'.cell? ⟨g', k' + i * 4 + 3, none⟩ = some lx'))
          (first
            | with_reducible exact HS.out _ OR.out.drew
            | with_reducible exact HS.out _ O2.out)
          (first | (go_at_call 23; refine (show Calls Tryz.prog 23 _ _ _ from HCC.out _ HI.out.drew).mono ?_; rintro ex w2 ⟨rfl, o2⟩; have O2 : Hid (Only (fun _ => False) w1 w2) := OR.out.drew.trans o2 (fun _ _ g => g)))
        have HK : Hid (Only (fun _ => False) w w2) := HI.out.trans O2.out (fun _ _ g => g)
        clear HI O2 OR HS HCC c0 c1 c2 c3 c4 c5 c6 c7 o2
        cases Z with
        | false =>
          go_wp2
          go_ret
          exact ⟨by rw [HR2.out]; rfl, HK.out⟩
        | true =>
          go_wp2
          go_roundw
          case rel => exact ⟨i + 1, by go_num, by have := HB.out; omega, HR2.out.trans (Bool.true_and _), HK⟩
          case measure => simp only [uOf]; have := HB.out; omega
      · obtain rfl : i = N := by omega
        have i1 : ¬ (i : Int) < (i : Int) := by omega
        have HR2 : Hid (R = true) := by
          have := HR.out
          rw [List.drop_eq_nil_of_le (show la.length ≤ i by omega), List.drop_eq_nil_of_le (show lb.length ≤ i by omega)] at this
          exact this
        clear HE hNl hN4 hi hiN HR
        go_wp2
        go_ret
        exact ⟨by rw [HR2.out]; rfl, HI.out⟩
  · show Calls Tryz.prog 9 _ w fun e w' => e = .returned (.bool (smL (saV d) la lb)) ∧ Only (fun _ => False) w w'
    rw [smL_len _ _ _ hlen]
    exact sameall_ne _ _ _ _ _ _ w (by omega)
theorem dsame_all : ∀ (d : Nat), DaC d ∧ DmC d
  | 0 => ⟨fun la lb va vb w S S' h => h.elim, fun a b va vb w S S' h => h.elim⟩
  | d + 1 => ⟨dsameall_of d (dsame_all d).2, dsame_of d (dsameall_of d (dsame_all d).2)⟩
end Go.Proofs.YtmpfbjmaiddigaaGreatDoor
namespace Go.Proofs.YtmpfbjmaiddigaaGreatDoor
open Go.RowKit Go.Lib
set_option linter.unusedSimpArgs false
set_option linter.unusedVariables false
theorem TrAt.sq {w : World} {S : Nat → Prop} {d e : Nat} {t : Tre} {v : Value} (h : TrAt w S d true t v) (hw : WfT e t) : SqA w S v := by
  cases d with
  | zero => exact h.elim
  | succ d =>
    rcases h with ⟨_, _, rfl⟩ | ⟨_, u, rfl, hu⟩
    · exact .inr ⟨_, _, rfl, fun h => absurd h (by decide)⟩
    · refine .inr ⟨_, _, rfl, fun _ => ⟨u, rfl, ?_⟩⟩
      cases d with
      | zero => exact hu.elim
      | succ d =>
        rcases hu with ⟨_, _, rfl⟩ | ⟨_, _, rfl⟩ | ⟨_, _, rfl⟩ | ⟨hk, ao, cap, rfl, hc, hl⟩
        · exact .inr ⟨_, _, rfl, fun h => by rcases h with h | h <;> exact absurd h (by decide)⟩
        · exact .inr ⟨_, _, rfl, fun h => by rcases h with h | h <;> exact absurd h (by decide)⟩
        · exact .inr ⟨_, _, rfl, fun h => by rcases h with h | h <;> exact absurd h (by decide)⟩
        · refine .inr ⟨_, _, rfl, fun _ => ⟨ao, t.l.length, cap, rfl, ?_, fun j hj => ?_⟩⟩
          · cases e with
            | zero => exact hw.elim
            | succ e => exact Nat.le_trans hw.1 (by decide)
          · obtain ⟨g, k, z, q1, q2, q3, _⟩ := hl j (t.l[j]'hj) (List.getElem?_eq_getElem hj)
            exact ⟨g, k, z, q1, q2, q3⟩
/-- a definition's body that may be written over -/
def BdA (w : World) (S : Nat → Prop) (ao : Option Addr) (n : Nat) : Prop := n ≤ 4096 ∧ ∀ k, k < n → ∃ g q z, ao = some ⟨g, q, none⟩ ∧ S g ∧ w.cell? ⟨g, q + k, none⟩ = some z ∧ SqA w S z
theorem BdA.keep {S : Nat → Prop} {w w' : World} (h : Spl S w w') {ao : Option Addr} {n : Nat} (g : BdA w S ao n) : BdA w' S ao n := by
  refine ⟨g.1, fun k hk => ?_⟩
  obtain ⟨b, q, z, e1, e2, e3, e4⟩ := g.2 k hk
  obtain ⟨z', c1, c2⟩ := h.2.2 ⟨b, q + k, none⟩ z e2 e3
  refine ⟨b, q, z', e1, e2, c1, ?_⟩
  rcases c2 with rfl | c2
  · exact e4.keep h
  · exact c2.sq _ _
/-- forms that may be written over: all of them but themselves -/
def FlA (w : World) (S : Nat → Prop) (ao : Option Addr) (L : Nat) : Prop := ∀ j, j < L → ∃ g bo n cap iv, ao = some ⟨g, 0, none⟩ ∧ ¬ S g ∧ w.cell? ⟨g, j * 6 + 4, none⟩ = some (.slice bo n cap) ∧ w.cell? ⟨g, j * 6 + 5, none⟩ = some iv ∧ BdA w S bo n ∧ SqA w S iv
theorem FlA.keep {S : Nat → Prop} {w w' : World} (h : Spl S w w') {ao : Option Addr} {L : Nat} (f : FlA w S ao L) : FlA w' S ao L := by
  intro j hj
  obtain ⟨g, bo, n, cap, iv, e1, e2, e3, e4, e5, e6⟩ := f j hj
  exact ⟨g, bo, n, cap, iv, e1, e2, h.1.cell e3 e2, h.1.cell e4 e2, e5.keep h, e6.keep h⟩
theorem FsAt.fl {w : World} {B d L cap : Nat} {ao : Option Addr} {l : List Fm} (h : FsAt w B d (.slice ao L cap) l) (hL : L = l.length) (hw : ∀ fm ∈ l, Wff fm) : ∃ S, FlA w S ao L ∧ ∀ b, S b → B ≤ b ∧ Liv w b := by
  obtain ⟨us, S, ho, ht, hS⟩ := h
  refine ⟨S, fun j hj => ?_, fun b hb => ⟨(hS b hb).1, (hS b hb).2.1⟩⟩
  obtain ⟨fm, hfm⟩ : ∃ fm, l[j]? = some fm := ⟨l[j]'(by omega), List.getElem?_eq_getElem (by omega)⟩
  have hm := List.mem_of_getElem? hfm
  obtain ⟨bv, iv, ⟨_, _, _, _, h4, h5⟩, h6⟩ := ht j fm hfm
  rcases ho.2 with ⟨h1, h2⟩ | ⟨g, c, cur, hv, hB, hg, hn, hcm, hcs, htk⟩
  · omega
  · have hv2 := hv
    injection hv2 with e1 e2 e3
    have hc : ∀ j u, us[j]? = some u → w.cell? ⟨g, j, none⟩ = some u := fun j u hu => by
      have := ho.cells (g := g) (by rw [hv]; rfl) j u hu
      rwa [addr_ad] at this
    have hng : ¬ S g := fun hs => (hS g hs).2.2 (by rw [hv]; rfl)
    obtain ⟨w1, ⟨e, w2⟩, ⟨e', w3⟩⟩ := hw fm hm
    rcases h6 with ⟨_, _, ⟨bo, bc, rfl, _, hl⟩, rfl⟩ | ⟨_, _, _, _, hb, rfl, hi⟩
    · refine ⟨g, bo, _, bc, .nilIface, e1, hng, hc _ _ h4, hc _ _ h5, ⟨w1, fun k hk => ?_⟩, .inl rfl⟩
      obtain ⟨x, hx⟩ : ∃ x, fm.b[k]? = some x := ⟨fm.b[k]'hk, List.getElem?_eq_getElem hk⟩
      obtain ⟨g', q, z, f1, f2, f3, f4⟩ := hl k x hx
      refine ⟨g', q, z, f1, f2, f3, ?_⟩
      cases e with
      | zero => exact w2.elim
      | succ e => exact f4.sq (w2.2 x (List.mem_of_getElem? hx))
    · exact ⟨g, none, 0, 0, iv, e1, hng, hc _ _ h4, hc _ _ h5, ⟨Nat.zero_le _, fun k hk => by omega⟩, hi.sq w3⟩
theorem SqA.shape {w : World} {S : Nat → Prop} {v : Value} (h : SqA w S v) : v = .nilIface ∨ ∃ T y, v = .iface T y := by
  rcases h with h | ⟨T, y, h, _⟩
  · exact .inl h
  · exact .inr ⟨T, y, h⟩
theorem ksmL_self (f : Vt → Vt → Bool) : ∀ (l : List Vt), (∀ x ∈ l, f x x = true) → smL f l l = true
  | [], _ => rfl
  | t :: l, h => by
    have h1 := h t (List.mem_cons_self ..)
    have h2 := ksmL_self f l (fun x hx => h x (List.mem_cons_of_mem _ hx))
    simp only [smL, h1, h2, Bool.and_true]
theorem ksaV_self : ∀ (d : Nat) (t : Vt), LfT d t → saV d t t = true
  | 0, _, h => h.elim
  | d + 1, t, h => by
    have h1 : smL (saV d) t.l t.l = true := ksmL_self _ _ (fun x hx => ksaV_self d x (h.2 x hx))
    have h2 : saL t.k t.n t.n t.s t.s = true := by
      unfold saL
      split
      · simp
      split
      · simp
      split
      · simp
      · rfl
    simp only [saV, h1, h2, decide_true, Bool.and_true]
theorem RiAt.qq {w : World} {B d n cap : Nat} {T : TypeId} {ao : Option Addr} {l : List Vt} (h : RiAt w B T d true (.slice ao n cap) l) : ∃ S, QiAt w S d true (.slice ao n cap) l ∧ ∀ b, S b → B ≤ b ∧ Liv w b := by
  obtain ⟨us, S, ho, ht, hS⟩ := h
  rcases ho.2 with ⟨h1, h2⟩ | ⟨g, c, cur, hv, hB, hg, hn, hcm, hcs, htk⟩
  · have hl : l = [] := by simpa using h2
    subst hl
    exact ⟨fun _ => False, ⟨none, 0, h1, Nat.le_refl _, fun j x hx => by simp at hx⟩, fun b hb => hb.elim⟩
  · refine ⟨fun b => S b ∨ b = g, ⟨some ⟨g, 0, none⟩, c, hv, hn, fun j x hx => ?_⟩, fun b hb => ?_⟩
    · obtain ⟨u, e1, e2⟩ := ht j x hx
      have hc := ho.cells (g := g) (by rw [hv]; rfl) j u e1
      rw [addr_ad] at hc
      exact ⟨g, 0, u, rfl, .inr rfl, by rw [Nat.zero_add]; exact hc, e2.step (fun _ q => .inl q) (fun _ _ _ q => q) (Nat.le_refl _)⟩
    · rcases hb with hb | rfl
      · exact ⟨(hS b hb).1, (hS b hb).2.1⟩
      · exact ⟨hB, Liv.of hg⟩
theorem UrAt.kvs {w : World} {B d : Nat} {v : Value} {l : List Vt} (h : UrAt w B d v l) : ∃ S, VsAt w S (d + 1) l v := by
  obtain ⟨S, h1, _⟩ := h.tree (t := ⟨0, 0, ⟨#[]⟩, l⟩) rfl
  exact ⟨S, h1⟩
end Go.Proofs.YtmpfbjmaiddigaaGreatDoor
namespace Go.Proofs
open Go.Shelf
def Tryz.laysFmt_ren : Go.Shelf.Ren := ⟨fun | 173 => 71 | 246 => 87 | 283 => 97 | 284 => 98 | 285 => 99 | 286 => 100 | 129 => 107 | 317 => 106 | 318 => 108 | 319 => 109 | 320 => 110 | 337 => 115 | 338 => 116 | n => n, fun | 2 => 2 | 3 => 3 | 9 => 9 | 4 => 4 | 171 => 171 | 0 => 0 | 53 => 172 | 37 => 58 | 5 => 5 | 173 => 175 | 212 => 184 | 51 => 185 | 20 => 20 | 213 => 186 | 46 => 169 | 232 => 192 | 233 => 193 | n => n, fun | 17 => 2 | 18 => 4 | 19 => 5 | n => n⟩
theorem Tryz.laysFmt : Go.Proofs.LaysM.n173 Tryz.prog Tryz.laysFmt_ren := {
  mixed := by kernel_rfl
  f129 := Tryz.func107.trans (congrArg some (by kernel_rfl))
  f173 := Tryz.func71.trans (congrArg some (by kernel_rfl))
  f246 := Tryz.func87.trans (congrArg some (by kernel_rfl))
  f283 := Tryz.func97.trans (congrArg some (by kernel_rfl))
  f284 := Tryz.func98.trans (congrArg some (by kernel_rfl))
  f285 := Tryz.func99.trans (congrArg some (by kernel_rfl))
  f286 := Tryz.func100.trans (congrArg some (by kernel_rfl))
  f317 := Tryz.func106.trans (congrArg some (by kernel_rfl))
  f318 := Tryz.func108.trans (congrArg some (by kernel_rfl))
  f319 := Tryz.func109.trans (congrArg some (by kernel_rfl))
  f320 := Tryz.func110.trans (congrArg some (by kernel_rfl))
  f337 := Tryz.func115.trans (congrArg some (by kernel_rfl))
  f338 := Tryz.func116.trans (congrArg some (by kernel_rfl))
  t0 := Tryz.underlying0
  a0 := Tryz.isAgg0
  z0 := Tryz.sizeOf0
  v0 := Tryz.zeroValue0
  t2 := Tryz.underlying2
  a2 := Tryz.isAgg2
  z2 := Tryz.sizeOf2
  v2 := Tryz.zeroValue2
  t3 := Tryz.underlying3
  a3 := Tryz.isAgg3
  z3 := Tryz.sizeOf3
  v3 := Tryz.zeroValue3
  t4 := Tryz.underlying4
  a4 := Tryz.isAgg4
  z4 := Tryz.sizeOf4
  v4 := Tryz.zeroValue4
  t5 := Tryz.underlying5
  a5 := Tryz.isAgg5
  z5 := Tryz.sizeOf5
  v5 := Tryz.zeroValue5
  t9 := Tryz.underlying9
  a9 := Tryz.isAgg9
  z9 := Tryz.sizeOf9
  v9 := Tryz.zeroValue9
  t20 := Tryz.underlying20
  a20 := Tryz.isAgg20
  z20 := Tryz.sizeOf20
  v20 := Tryz.zeroValue20
  t37 := Tryz.underlying58
  a37 := Tryz.isAgg58
  z37 := Tryz.sizeOf58
  v37 := Tryz.zeroValue58
  t46 := Tryz.underlying169
  a46 := Tryz.isAgg169
  z46 := Tryz.sizeOf169
  v46 := Tryz.zeroValue169
  t51 := Tryz.underlying185
  a51 := Tryz.isAgg185
  z51 := Tryz.sizeOf185
  v51 := Tryz.zeroValue185
  t53 := Tryz.underlying172
  a53 := Tryz.isAgg172
  z53 := Tryz.sizeOf172
  v53 := Tryz.zeroValue172
  t171 := Tryz.underlying171
  a171 := Tryz.isAgg171
  z171 := Tryz.sizeOf171
  v171 := Tryz.zeroValue171
  t173 := Tryz.underlying175
  a173 := Tryz.isAgg175
  z173 := Tryz.sizeOf175
  v173 := Tryz.zeroValue175
  t212 := Tryz.underlying184
  a212 := Tryz.isAgg184
  z212 := Tryz.sizeOf184
  v212 := Tryz.zeroValue184
  t213 := Tryz.underlying186
  a213 := Tryz.isAgg186
  z213 := Tryz.sizeOf186
  t232 := Tryz.underlying192
  a232 := Tryz.isAgg192
  z232 := Tryz.sizeOf192
  v232 := Tryz.zeroValue192
  t233 := Tryz.underlying193
  a233 := Tryz.isAgg193
  z233 := Tryz.sizeOf193
  v233 := Tryz.zeroValue193
  g17 := by kernel_rfl
  g18 := by kernel_rfl
  g19 := by kernel_rfl
  i0 := by kernel_rfl
  i2 := by kernel_rfl
  i3 := by kernel_rfl
  i4 := by kernel_rfl
  i5 := by kernel_rfl
  i9 := by kernel_rfl
  i20 := by kernel_rfl
  i37 := by kernel_rfl
  i46 := by kernel_rfl
  i51 := by kernel_rfl
  i53 := by kernel_rfl
  i171 := by kernel_rfl
  i173 := by kernel_rfl
  i212 := by kernel_rfl
  i232 := by kernel_rfl
  i233 := by kernel_rfl
  m17 := by kernel_rfl
  m18 := by kernel_rfl
  m19 := by kernel_rfl }
end Go.Proofs
namespace Go.Proofs.YtmpfbjmaiddigaaGreatDoor
open Go.RowKit Go.Lib
set_option linter.unusedSimpArgs false
set_option linter.unusedVariables false
end Go.Proofs.YtmpfbjmaiddigaaGreatDoor
namespace Go.Proofs.YtmpfbjmaiddigaaGreatDoor
open Go.RowKit Go.Lib
set_option linter.unusedSimpArgs false
set_option linter.unusedVariables false
/-- the table of the powers of ten, as it begins -/
def Pw (w : World) : Prop := Lib.TabIs Tryz.prog w "internal/strconv.uint64pow10" .u64 Lib.pow10Tab
def Tx (w : World) : Prop := Tb w ∧ Pw w
theorem Pw.frame {w w' : World} (h : Pw w) (o : Only (fun _ => False) w w') : Pw w' := by
  unfold Pw Lib.TabIs at *
  unfold World.var? at *
  cases hg : Tryz.prog.globalNamed "internal/strconv.uint64pow10" with
  | none => rw [hg] at h; simp at h
  | some g =>
    rw [hg] at h
    simp only [Option.bind_some] at h ⊢
    cases hb : w.heap[g]? with
    | none => rw [hb] at h; simp at h
    | some ob =>
      rw [hb] at h
      rw [o.block g (Array.getElem?_eq_some_iff.1 hb).1 (fun g => g), hb]
      exact h
theorem Tx.frame {w w' : World} (h : Tx w) (o : Only (fun _ => False) w w') : Tx w' := ⟨h.1.frame o, h.2.frame o⟩
theorem only_grow {w : World} (k : Nat) (os : Array Obj) : Only (fun _ => False) w (Go.Sort.grow (w.drewN k) os) := by
  refine ⟨rfl, rfl, rfl, ?_, fun i hi _ => ?_⟩
  · show w.heap.size ≤ (w.heap ++ os).size
    rw [Array.size_append]
    omega
  · show (w.heap ++ os)[i]? = w.heap[i]?
    rw [Array.getElem?_append_left hi]
theorem fmt_any (n : Int) (h0 : -9223372036854775808 ≤ n) (h1 : n ≤ 9223372036854775807) (w : World) (h : Pw w) : Calls Tryz.prog 71 #[.int .i64 n, .int .i64 10] w fun e w' => e = .returned (.string ⟨(Lib.itoa n).toArray⟩) ∧ Only (fun _ => False) w w' :=
  (Any.strconv_FormatInt_10 Tryz.laysFmt n h0 h1 w h).mono fun e w' ⟨he, k, os, hw⟩ => ⟨he, by rw [hw]; exact only_grow k os⟩
/-- a value is sound as parse has it; and what is written of it -/
def PsV (v : Value) : Prop := ∀ (M : Nat) (w : World), Tb w → MlB w M 1024 → Mg M → Calls Tryz.prog 69 #[.pointer (some ⟨M, 0, none⟩), v, .int .i64 32] w fun e w' => e = .returned (.bool true) ∧ Only (fun b => b = M) w w'
def WvV (v : Value) (t : ByteArray) : Prop := ∀ (B b : Nat) (w : World), Tx w → WrU B b [] false w → B ≤ w.heap.size → Calls Tryz.prog 50 #[.pointer (some ⟨b, 0, none⟩), v] w fun e w' => e = .returned (.tuple #[]) ∧ Hid (WrU B b (strCells t) true w' ∧ Only (fun k => B ≤ k) w w')
theorem mlB_keep {w w' : World} {M : Nat} {k : Int} (h : MlB w M k) (o : Only (fun _ => False) w w') : MlB w' M k := (o.block M (Array.getElem?_eq_some_iff.1 h).1 (fun g => g)).trans h
set_option maxRecDepth 100000 in
theorem ps_int (n : Int) (h1 : -1152921504606846976 ≤ n) (h2 : n ≤ 1152921504606846975) : PsV (.iface 88 (.agg #[.int .i64 n])) := by
  intro M w _ h _
  have HM : Hid (Calls Tryz.prog 70 #[.pointer (some ⟨M, 0, none⟩)] w fun e w' => e = .returned (.bool true) ∧ Only (fun b => b = M) w w' ∧ MlB w' M (1024 - 1)) := pmore_any M 1024 w h (by omega) (by omega)
  have hInt := va_hit 88 79 _ Tryz.underlying88 (by intro m h; cases h)
  clear h
  go_enter Tryz.func69, Tryz.ntmps69
  go_wp2_with fail
  refine (show Calls Tryz.prog 70 _ _ _ from HM.out).mono ?_
  rintro e w1 ⟨rfl, o1, _⟩
  have O1 : Hid (Only (fun b => b = M) w w1) := o1
  clear HM o1
  go_wp2
  all_goals
    go_ret
    exact ⟨by simp [*], O1.out.alloc _⟩
set_option maxRecDepth 100000 in
theorem ps_bool (b : Bool) : PsV (.iface 120 (.agg #[.bool b])) := by
  intro M w _ h _
  have HM : Hid (Calls Tryz.prog 70 #[.pointer (some ⟨M, 0, none⟩)] w fun e w' => e = .returned (.bool true) ∧ Only (fun b => b = M) w w' ∧ MlB w' M (1024 - 1)) := pmore_any M 1024 w h (by omega) (by omega)
  have hInt := va_miss 120 88 79 _ Tryz.underlying88 (by intro m h; cases h) (by decide) _ zI
  have hStr := va_miss 120 118 79 _ Tryz.underlying118 (by intro m h; cases h) (by decide) _ zS
  have hBl := va_hit 120 79 _ Tryz.underlying120 (by intro m h; cases h)
  clear h
  go_enter Tryz.func69, Tryz.ntmps69
  go_wp2_with fail
  refine (show Calls Tryz.prog 70 _ _ _ from HM.out).mono ?_
  rintro e w1 ⟨rfl, o1, _⟩
  have O1 : Hid (Only (fun b => b = M) w w1) := o1
  clear HM o1
  go_wp2
  all_goals
    go_ret
    refine ⟨by simp [*], ?_⟩
    repeat' first | exact O1.out | apply Only.alloc
set_option maxRecDepth 100000 in
theorem ps_str (s : ByteArray) (h1 : s.size ≤ 4096) (h2 : vlB s = true) : PsV (.iface 118 (.agg #[.string s])) := by
  intro M w hT h hg
  have HM : Hid (Calls Tryz.prog 70 #[.pointer (some ⟨M, 0, none⟩)] w fun e w' => e = .returned (.bool true) ∧ Only (fun b => b = M) w w' ∧ MlB w' M (1024 - 1)) := pmore_any M 1024 w h (by omega) (by omega)
  have HV : Hid (∀ w1, Only (fun b => b = M) w w1 → Calls Tryz.prog 84 #[.string s] w1 fun e w' => e = .returned (.bool true) ∧ Only (fun _ => False) w1 w') := fun w1 o => by
    have := valid_any s (by omega) w1 (hT.keep o hg.1 hg.2.1 hg.2.2)
    rwa [h2] at this
  have hInt := va_miss 118 88 79 _ Tryz.underlying88 (by intro m h; cases h) (by decide) _ zI
  have hStr := va_hit 118 79 _ Tryz.underlying118 (by intro m h; cases h)
  have i1 : (s.size : Int) ≤ 4096 := by omega
  clear h hT hg h1 h2
  go_enter Tryz.func69, Tryz.ntmps69
  go_wp2_with fail
  refine (show Calls Tryz.prog 70 _ _ _ from HM.out).mono ?_
  rintro e w1 ⟨rfl, o1, _⟩
  have O1 : Hid (Only (fun b => b = M) w w1) := o1
  clear HM o1
  go_wp2_with fail
  refine (show Calls Tryz.prog 84 _ _ _ from HV.out _ (by repeat' first | exact O1.out | apply Only.alloc)).mono ?_
  rintro e w2 ⟨rfl, o2⟩
  have O2 : Hid (Only (fun b => b = M) w w2) := Only.trans (by repeat' first | exact O1.out | apply Only.alloc) o2 (fun _ _ g => g.elim)
  clear HV o2
  go_wp2
  go_ret
  exact ⟨rfl, O2.out⟩
theorem wword0 {B b : Nat} {s : ByteArray} (hs : s.size ≤ 1000000) (w1 : World) (h : WrU B b [] false w1) (hB : B ≤ w1.heap.size) : Calls Tryz.prog 51 #[.pointer (some ⟨b, 0, none⟩), .string s] w1 fun e w' => e = .returned (.tuple #[]) ∧ Hid (WrU B b (strCells s) true w' ∧ Only (fun k => B ≤ k) w1 w') := (wword_first B b [] s w1 h (by simp) hs hB).mono fun e w' g => ⟨g.1, by have := g.2.out; rw [List.nil_append] at this; exact this⟩
theorem wfull0 {B b : Nat} {w : World} (h : WrU B b [] false w) : Calls Tryz.prog 34 #[.pointer (some ⟨b, 0, none⟩)] w fun e w' => e = .returned (.bool false) ∧ w' = w := by
  have := wfull_any B b _ false w h
  rwa [show decide (65536 < (([] : List Value).length : Int)) = false by simp] at this
set_option maxRecDepth 100000 in
theorem wv_int (n : Int) (h0 : -9223372036854775808 ≤ n) (h1 : n ≤ 9223372036854775807) : WvV (.iface 88 (.agg #[.int .i64 n])) ⟨(Lib.itoa n).toArray⟩ := by
  intro B b w hT h hBw
  have hz : (⟨(Lib.itoa n).toArray⟩ : ByteArray).size ≤ 1000000 := by
    have := Lib.itoa_length_le n h0 h1
    show (Lib.itoa n).toArray.size ≤ _
    simp
    omega
  obtain ⟨T, hTt⟩ : ∃ T : ByteArray, T = ⟨(Lib.itoa n).toArray⟩ := ⟨_, rfl⟩
  have HF : Hid _ := wfull0 h
  have HI : Hid (∀ w1, Only (fun _ => False) w w1 → Calls Tryz.prog 71 #[.int .i64 n, .int .i64 10] w1 fun e w' => e = .returned (.string T) ∧ Only (fun _ => False) w1 w') := fun w1 o => by
    rw [hTt]
    exact fmt_any n h0 h1 w1 (hT.2.frame o)
  have HW : Hid (∀ w1, Only (fun _ => False) w w1 → Calls Tryz.prog 51 #[.pointer (some ⟨b, 0, none⟩), .string T] w1 fun e w' => e = .returned (.tuple #[]) ∧ Hid (WrU B b (strCells T) true w' ∧ Only (fun k => B ≤ k) w1 w')) := fun w1 o => by
    rw [hTt]
    exact wword0 hz w1 (h.only o) (Nat.le_trans hBw o.size)
  have hInt := va_hit 88 79 _ Tryz.underlying88 (by intro m h; cases h)
  have O0 : Hid (Only (fun _ => False) w w) := Only.refl _ _
  rw [← hTt]
  clear h hBw hT hz hTt h0 h1
  go_enter Tryz.func50, Tryz.ntmps50
  go_wp2_with fail
  refine (show Calls Tryz.prog 34 _ _ _ from HF.out).mono ?_
  rintro e w1 ⟨rfl, hw⟩
  obtain rfl : w = w1 := hw.symm
  clear HF hw
  go_wp2_with fail
  refine (show Calls Tryz.prog 71 _ _ _ from HI.out _ (by repeat' first | exact O0.out | apply Only.alloc)).mono ?_
  rintro e w2 ⟨rfl, o2⟩
  have O2 : Hid (Only (fun _ => False) w w2) := Only.trans (by repeat' first | exact O0.out | apply Only.alloc) o2 (fun _ _ g => g)
  clear HI o2
  go_wp2_with fail
  refine (show Calls Tryz.prog 51 _ _ _ from HW.out _ O2.out).mono ?_
  rintro e w3 ⟨rfl, g3⟩
  clear HW
  go_wp2
  go_end0
  exact ⟨rfl, g3.out.1, (O2.out.mono (fun _ _ h => h.elim)).trans g3.out.2 (fun _ _ g => g)⟩
set_option maxRecDepth 100000 in
theorem wv_str (s : ByteArray) (h1 : s.size ≤ 4096) (h2 : vlB s = true) (hq : (quoR s).1.size ≤ 1000000) : WvV (.iface 118 (.agg #[.string s])) (quoR s).1 := by
  intro B b w hT h hBw
  obtain ⟨T, hTt⟩ : ∃ T, T = (quoR s).1 := ⟨_, rfl⟩
  obtain ⟨E, hE⟩ : ∃ T, T = (quoR s).2 := ⟨_, rfl⟩
  have HF : Hid _ := wfull0 h
  have HI : Hid (∀ w1, Calls Tryz.prog 72 #[.string s] w1 fun e w' => e = .returned (.tuple #[.string T, .int .i64 E]) ∧ Only (fun _ => False) w1 w') := fun w1 => by
    rw [hTt, hE]
    exact (quoted_any s (by omega) w1).mono fun e w' g => ⟨g.1, ⟨g.2.out.os, g.2.out.tape, g.2.out.output, g.2.out.size, fun k hk _ => g.2.out.block k hk⟩⟩
  have HW : Hid (∀ w1, Only (fun _ => False) w w1 → Calls Tryz.prog 51 #[.pointer (some ⟨b, 0, none⟩), .string T] w1 fun e w' => e = .returned (.tuple #[]) ∧ Hid (WrU B b (strCells T) true w' ∧ Only (fun k => B ≤ k) w1 w')) := fun w1 o => by
    rw [hTt]
    exact wword0 hq w1 (h.only o) (Nat.le_trans hBw o.size)
  have hInt := va_miss 118 88 79 _ Tryz.underlying88 (by intro m h; cases h) (by decide) _ zI
  have hStr := va_hit 118 79 _ Tryz.underlying118 (by intro m h; cases h)
  have O0 : Hid (Only (fun _ => False) w w) := Only.refl _ _
  rw [← hTt]
  clear h hBw hT hq hTt h1 h2 hE
  go_enter Tryz.func50, Tryz.ntmps50
  go_wp2_with fail
  refine (show Calls Tryz.prog 34 _ _ _ from HF.out).mono ?_
  rintro e w1 ⟨rfl, hw⟩
  obtain rfl : w = w1 := hw.symm
  clear HF hw
  go_wp2_with fail
  refine (show Calls Tryz.prog 72 _ _ _ from HI.out _).mono ?_
  rintro e w2 ⟨rfl, o2⟩
  have O2 : Hid (Only (fun _ => False) w w2) := Only.trans (by repeat' first | exact O0.out | apply Only.alloc) o2 (fun _ _ g => g)
  clear HI o2
  go_wp2_with fail
  refine (show Calls Tryz.prog 51 _ _ _ from HW.out _ O2.out).mono ?_
  rintro e w3 ⟨rfl, g3⟩
  clear HW
  go_wp2
  go_end0
  exact ⟨rfl, g3.out.1, (O2.out.mono (fun _ _ h => h.elim)).trans g3.out.2 (fun _ _ g => g)⟩
def flT (b : Bool) : ByteArray := if b then ⟨#[116]⟩ else ⟨#[102]⟩
set_option maxRecDepth 100000 in
theorem wflag_any (y : Bool) (B b : Nat) (w : World) (h : WrU B b [] false w) (hBw : B ≤ w.heap.size) : Calls Tryz.prog 73 #[.pointer (some ⟨b, 0, none⟩), .bool y] w fun e w' => e = .returned (.tuple #[]) ∧ Hid (WrU B b (strCells (flT y)) true w' ∧ Only (fun k => B ≤ k) w w') := by
  have HW : Hid (Calls Tryz.prog 51 #[.pointer (some ⟨b, 0, none⟩), .string (flT y)] w fun e w' => e = .returned (.tuple #[]) ∧ Hid (WrU B b (strCells (flT y)) true w' ∧ Only (fun k => B ≤ k) w w')) := wword0 (by cases y <;> decide) w h hBw
  clear h hBw
  cases y
  all_goals
    unfold flT at HW ⊢
    go_enter Tryz.func73, Tryz.ntmps73
    go_wp2_with fail
    refine (show Calls Tryz.prog 51 _ _ _ from HW.out).mono ?_
    rintro e w3 ⟨rfl, g3⟩
    clear HW
    go_wp2
    first | go_end0 | ((try simp only [Exit.inBlock, Exit.then]); refine bodyPost_ret (results_none rfl _ _ _) rfl ?_)
    exact ⟨rfl, g3.out⟩
set_option maxRecDepth 100000 in
theorem wv_bool (y : Bool) : WvV (.iface 120 (.agg #[.bool y])) (flT y) := by
  intro B b w hT h hBw
  have HF : Hid _ := wfull0 h
  have HW : Hid (∀ w1, Only (fun _ => False) w w1 → Calls Tryz.prog 73 #[.pointer (some ⟨b, 0, none⟩), .bool y] w1 fun e w' => e = .returned (.tuple #[]) ∧ Hid (WrU B b (strCells (flT y)) true w' ∧ Only (fun k => B ≤ k) w1 w')) := fun w1 o => wflag_any y B b w1 (h.only o) (Nat.le_trans hBw o.size)
  have hInt := va_miss 120 88 79 _ Tryz.underlying88 (by intro m h; cases h) (by decide) _ zI
  have hStr := va_miss 120 118 79 _ Tryz.underlying118 (by intro m h; cases h) (by decide) _ zS
  have hBl := va_hit 120 79 _ Tryz.underlying120 (by intro m h; cases h)
  have O0 : Hid (Only (fun _ => False) w w) := Only.refl _ _
  obtain ⟨T, hTt⟩ : ∃ T, T = flT y := ⟨_, rfl⟩
  rw [← hTt] at HW ⊢
  clear h hBw hT hTt
  go_enter Tryz.func50, Tryz.ntmps50
  go_wp2_with fail
  refine (show Calls Tryz.prog 34 _ _ _ from HF.out).mono ?_
  rintro e w1 ⟨rfl, hw⟩
  obtain rfl : w = w1 := hw.symm
  clear HF hw
  go_wp2_with fail
  refine (show Calls Tryz.prog 73 _ _ _ from HW.out _ (by repeat' first | exact O0.out | apply Only.alloc)).mono ?_
  rintro e w3 ⟨rfl, g3⟩
  have G3 : Hid (WrU B b (strCells T) true w3 ∧ Only (fun k => B ≤ k) w w3) := ⟨g3.out.1, Only.trans (show Only (fun k => B ≤ k) w _ by repeat' first | exact (Only.refl _ _) | apply Only.alloc) g3.out.2 (fun _ _ g => g)⟩
  clear HW g3
  go_wp2
  go_end0
  exact ⟨rfl, G3.out⟩
end Go.Proofs.YtmpfbjmaiddigaaGreatDoor
