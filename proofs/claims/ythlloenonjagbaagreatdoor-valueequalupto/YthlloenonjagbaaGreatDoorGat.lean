/- Many values as trees: Trees, ItemTrees. Equal values: same, sameItem; Equal. -/
import Derived.Test.YthlloenonjagbaaGreatDoorGas
import Derived.Test.YthlloenonjagbaaGreatDoorGam
namespace Go.Proofs.YthlloenonjagbaaGreatDoor
open Go.RowKit
set_option linter.unusedSimpArgs false
set_option linter.unusedVariables false
set_option maxRecDepth 100000 in
theorem uv_info : ∃ i z, Tryz.prog.info? 24 = some i ∧ i.zero = some z ∧ i.size = 4 ∧ i.bytes = 56 ∧ z.cells.size = 4 := ⟨_, _, rfl, rfl, rfl, rfl, rfl⟩
set_option maxRecDepth 100000 in
set_option maxHeartbeats 4000000 in
theorem utrees_of (d : Nat) (H : TuE d 10 false) : TuS d 31 false := by
  intro v l w S hq hl hw
  obtain ⟨av, cv, rfl, hcv, hel⟩ := hq
  have HE : Hid (∀ (j : Nat) (x : Vt), l[j]? = some x → ∃ g k u, av = some ⟨g, k, none⟩ ∧ w.cell? ⟨g, k + j, none⟩ = some u ∧ ∀ w1, Only (fun _ => False) w w1 → Calls Tryz.prog 10 #[u] w1 fun e w' => ∃ lv, e = .returned (.agg #[.int .i64 x.k, .int .i64 (x.n), .string (x.s), lv]) ∧ Hid (NuAt w' w1.heap.size d x lv ∧ Only (fun _ => False) w1 w')) := by
    intro j x hx
    obtain ⟨g, k, u, ha, hg, hc, ht⟩ := hel j x hx
    exact ⟨g, k, u, ha, hc, fun w1 o1 => H u x w1 S (ht.step (fun _ g => g) (fun a u _ hc => o1.cell hc (fun g => g)) (Nat.le_refl _)) (hw x (List.mem_of_getElem? hx))⟩
  have HLB : Hid (l.length ≤ 1048576) := hl
  clear hcv hel hl hw H
  obtain ⟨N, hN⟩ : ∃ N, N = l.length := ⟨_, rfl⟩
  have HNN : Hid (N = l.length) := hN
  rw [← hN]
  clear hN
  go_enter Tryz.func31, Tryz.ntmps31
  go_wp2
  go_loopw [3, 4] (fun r3 r4 wr => ∃ (i : Nat) (ao : Option Addr) (cap : Nat), r3 = .slice ao i cap ∧ r4 = .int .i64 (i : Int) ∧ i ≤ N ∧ Hid (UrAt wr w.heap.size d (.slice ao i cap) (l.take i) ∧ Only (fun _ => False) w wr)) (fun _ r4 _ => N - vuOf r4)
  case atStart => exact ⟨0, none, 0, rfl, rfl, Nat.zero_le _, ur_nil _ _ _, Only.refl _ _⟩
  case round =>
    obtain ⟨i, ao, cap, rfl, rfl, hi, HI⟩ := hrel
    obtain ⟨w1, rfl⟩ : ∃ w1, w1 = wr := ⟨_, rfl⟩
    have hNl : N = l.length := HNN.out
    have hN4 : l.length ≤ 1048576 := HLB.out
    by_cases hiN : i < N
    · obtain ⟨x, hx⟩ : ∃ x, l[i]? = some x := ⟨l[i]'(by omega), List.getElem?_eq_getElem (by omega)⟩
      obtain ⟨g, k, u, rfl, hc, hcall⟩ := HE.out i x hx
      have hc1 : w1.cell? ⟨g, k + i, none⟩ = some u := HI.out.2.cell hc (fun g => g)
      have HC : Hid (Calls Tryz.prog 10 #[u] w1 fun e w' => ∃ lv, e = .returned (.agg #[.int .i64 x.k, .int .i64 (x.n), .string (x.s), lv]) ∧ Hid (NuAt w' w1.heap.size d x lv ∧ Only (fun _ => False) w1 w')) := hcall w1 HI.out.2
      have HX : Hid (l.take i ++ [x] = l.take (i + 1) ∧ (l.take i).length = i) := by
        have hil : i < l.length := by omega
        refine ⟨?_, by simp; omega⟩
        rw [List.take_add_one, hx]
        rfl
      have HB : Hid (i < N ∧ N ≤ 1048576) := ⟨hiN, by omega⟩
      have i1 : (i : Int) < (N : Int) := by omega
      have i0 : (0 : Int) ≤ (i : Int) := by omega
      clear hc hcall HE hNl hN4 hx
      obtain ⟨x0, hx0⟩ : ∃ x0, x0 = x.k := ⟨_, rfl⟩
      obtain ⟨x1, hx1⟩ : ∃ x1, x1 = x.n := ⟨_, rfl⟩
      obtain ⟨x2, hx2⟩ : ∃ x2, x2 = x.s := ⟨_, rfl⟩
      have HXX : Hid (x0 = x.k ∧ x1 = x.n ∧ x2 = x.s) := ⟨hx0, hx1, hx2⟩
      rw [← hx0, ← hx1, ← hx2] at HC
      clear hx0 hx1 hx2
      go_wp2_with fail
      refine (show Calls Tryz.prog 10 _ _ _ from HC.out).mono ?_
      rintro e w2 ⟨lv, rfl, g2⟩
      obtain ⟨al, cl, hlv⟩ := g2.out.1.form
      have W4 : UrAt (w2.alloc (.cells #[.int .i64 x0, .int .i64 x1, .string x2, lv] 24)) w.heap.size d (.slice ao i cap) (l.take i) := (HI.out.1.only g2.out.2 (fun _ _ h => h)).only ((Only.refl (fun _ => False) w2).alloc _) (fun _ _ h => h)
      have N4 : NuAt (w2.alloc (.cells #[.int .i64 x0, .int .i64 x1, .string x2, lv] 24)) w1.heap.size d x lv := g2.out.1.only ((Only.refl (fun _ => False) w2).alloc _) (fun _ _ h => h)
      have O4 : Only (fun _ => False) w (w2.alloc (.cells #[.int .i64 x0, .int .i64 x1, .string x2, lv] 24)) := (HI.out.2.trans g2.out.2 (fun _ _ g => g)).alloc _
      have hlt : ∀ k, (Value.slice ao i cap).ownBlock = some k → k < w1.heap.size := fun k hk => by
        obtain ⟨us, S', hr, _⟩ := HI.out.1
        exact (hr.lt k hk).2
      have hsz1 : w.heap.size ≤ w1.heap.size := HI.out.2.size
      have hsz2 : w1.heap.size ≤ w2.heap.size := g2.out.2.size
      obtain ⟨us, SS, hown, htr, hSS⟩ := W4
      rw [HX.out.2] at hown
      have HOW : Hid ((w2.alloc (.cells #[.int .i64 x0, .int .i64 x1, .string x2, lv] 24)).ownsRow w.heap.size 24 4 (.slice ao i cap) i us) := hown
      have HAL : Hid (_ ∧ _ ∧ NuAt (w2.alloc (.cells #[.int .i64 x0, .int .i64 x1, .string x2, lv] 24)) w1.heap.size d x lv ∧ Only (fun _ => False) w (w2.alloc (.cells #[.int .i64 x0, .int .i64 x1, .string x2, lv] 24)) ∧ w.heap.size ≤ w1.heap.size ∧ (∀ k, (Value.slice ao i cap).ownBlock = some k → k < w1.heap.size)) := ⟨htr, hSS, N4, O4, hsz1, hlt⟩
      subst hlv
      obtain ⟨i0', z0, hi', hz0, hz1, hz2, hz3⟩ := uv_info
      obtain ⟨xl, hxl⟩ : ∃ xl, xl = x.l.length := ⟨_, rfl⟩
      rw [← hxl] at HOW HAL
      rw [← hxl]
      clear N4 O4 hown htr hSS hlt g2 HI HC hxl
      go_wp2_with (at_builtin; refine wpList_append_own_at _ rfl _ _ 22 rfl w.heap.size 24 i0' z0 4 56 Tryz.underlying22 hi' hz0 hz1 hz2 hz3 (by decide) _ i us rfl HOW.out ⟨w2.heap.size, 0, none⟩ 1 1 [.int .i64 x0, .int .i64 x1, .string x2, .slice al xl cl] rfl rfl ?c1 ?c2 ?c3 ?c4 ?c5 ?_)
      case c1 =>
        intro j u hj
        rcases j with _ | _ | _ | _ | j <;> simp at hj <;> subst hj <;> simp [Addr.add]
      case c2 =>
        intro u hu
        simp only [List.mem_cons, List.not_mem_nil, or_false] at hu
        rcases hu with rfl | rfl | rfl | rfl <;> rfl
      case c3 => have := HB.out; unfold maxLen; omega
      case c4 => have := HB.out; omega
      case c5 => simp; omega
      intro v' w4 hown' hgrow _ hat
      obtain ⟨a1, a2, a3, a4, a5, a6⟩ := HAL.out
      obtain ⟨e0, e1, e2⟩ := HXX.out
      have W5 : UrAt w4 w.heap.size d v' (l.take i ++ [x]) := UrAt.snoc hgrow (by rw [HX.out.2]; exact HOW.out) a1 a2 a3 a5 a6 (by rw [HX.out.2, ← e0, ← e1, ← e2]; exact hown') (by simpa using hat)
      rw [HX.out.1] at W5
      have og : Only (fun k => (Value.slice ao i cap).ownBlock = some k) (w2.alloc (.cells #[.int .i64 x0, .int .i64 x1, .string x2, .slice al xl cl] 24)) w4 := (Only.refl _ _).grown hgrow (fun k e _ => e)
      have O5 : Only (fun _ => False) w w4 := a4.trans og (fun k hk e => by have := (HOW.out.lt k e).1; omega)
      obtain ⟨ao', cap', hv'⟩ := W5.form
      have hlen : (l.take (i + 1)).length = i + 1 := by have : N = l.length := HNN.out; have := HB.out; simp; omega
      rw [hlen] at hv'
      subst hv'
      have HK5 : Hid (UrAt w4 w.heap.size d (.slice ao' (i + 1) cap') (l.take (i + 1)) ∧ Only (fun _ => False) w w4) := ⟨W5, O5⟩
      clear W5 O5 og HAL HOW hown' hgrow hat a1 a2 a3 a4 a5 a6 hi' hz0 hz1 hz2 hz3 hsz1 hsz2 e0 e1 e2 HXX hlen
      have hi4 : i ≤ 1048576 := by have := HB.out; omega
      go_wp2
      go_roundw
      case rel => exact ⟨i + 1, ao', cap', rfl, by go_num, by omega, HK5⟩
      case measure => simp only [vuOf]; have := HB.out; omega
    · obtain rfl : i = N := by omega
      have i1 : ¬ (i : Int) < (i : Int) := by omega
      have HK : Hid (UrAt w1 w.heap.size d (.slice ao i cap) l ∧ Only (fun _ => False) w w1) := by
        have := HI.out
        rw [hNl, List.take_length, ← hNl] at this
        exact this
      clear HI hNl hN4
      go_wp2
      go_ret
      exact ⟨ao, cap, rfl, HK⟩
set_option maxRecDepth 100000 in
set_option maxHeartbeats 4000000 in
theorem uitrees_of (d : Nat) (H : TuE d 40 true) : TuS d 21 true := by
  intro v l w S hq hl hw
  obtain ⟨av, cv, rfl, hcv, hel⟩ := hq
  have HE : Hid (∀ (j : Nat) (x : Vt), l[j]? = some x → ∃ g k u, av = some ⟨g, k, none⟩ ∧ w.cell? ⟨g, k + j, none⟩ = some u ∧ ∀ w1, Only (fun _ => False) w w1 → Calls Tryz.prog 40 #[u] w1 fun e w' => ∃ lv, e = .returned (.agg #[.int .i64 x.k, .int .i64 (x.n), .string (x.s), lv]) ∧ Hid (NuAt w' w1.heap.size d x lv ∧ Only (fun _ => False) w1 w')) := by
    intro j x hx
    obtain ⟨g, k, u, ha, hg, hc, ht⟩ := hel j x hx
    exact ⟨g, k, u, ha, hc, fun w1 o1 => H u x w1 S (ht.step (fun _ g => g) (fun a u _ hc => o1.cell hc (fun g => g)) (Nat.le_refl _)) (hw x (List.mem_of_getElem? hx))⟩
  have HLB : Hid (l.length ≤ 1048576) := hl
  clear hcv hel hl hw H
  obtain ⟨N, hN⟩ : ∃ N, N = l.length := ⟨_, rfl⟩
  have HNN : Hid (N = l.length) := hN
  rw [← hN]
  clear hN
  go_enter Tryz.func21, Tryz.ntmps21
  go_wp2
  go_loopw [3, 4] (fun r3 r4 wr => ∃ (i : Nat) (ao : Option Addr) (cap : Nat), r3 = .slice ao i cap ∧ r4 = .int .i64 (i : Int) ∧ i ≤ N ∧ Hid (UrAt wr w.heap.size d (.slice ao i cap) (l.take i) ∧ Only (fun _ => False) w wr)) (fun _ r4 _ => N - vuOf r4)
  case atStart => exact ⟨0, none, 0, rfl, rfl, Nat.zero_le _, ur_nil _ _ _, Only.refl _ _⟩
  case round =>
    obtain ⟨i, ao, cap, rfl, rfl, hi, HI⟩ := hrel
    obtain ⟨w1, rfl⟩ : ∃ w1, w1 = wr := ⟨_, rfl⟩
    have hNl : N = l.length := HNN.out
    have hN4 : l.length ≤ 1048576 := HLB.out
    by_cases hiN : i < N
    · obtain ⟨x, hx⟩ : ∃ x, l[i]? = some x := ⟨l[i]'(by omega), List.getElem?_eq_getElem (by omega)⟩
      obtain ⟨g, k, u, rfl, hc, hcall⟩ := HE.out i x hx
      have hc1 : w1.cell? ⟨g, k + i, none⟩ = some u := HI.out.2.cell hc (fun g => g)
      have HC : Hid (Calls Tryz.prog 40 #[u] w1 fun e w' => ∃ lv, e = .returned (.agg #[.int .i64 x.k, .int .i64 (x.n), .string (x.s), lv]) ∧ Hid (NuAt w' w1.heap.size d x lv ∧ Only (fun _ => False) w1 w')) := hcall w1 HI.out.2
      have HX : Hid (l.take i ++ [x] = l.take (i + 1) ∧ (l.take i).length = i) := by
        have hil : i < l.length := by omega
        refine ⟨?_, by simp; omega⟩
        rw [List.take_add_one, hx]
        rfl
      have HB : Hid (i < N ∧ N ≤ 1048576) := ⟨hiN, by omega⟩
      have i1 : (i : Int) < (N : Int) := by omega
      have i0 : (0 : Int) ≤ (i : Int) := by omega
      clear hc hcall HE hNl hN4 hx
      obtain ⟨x0, hx0⟩ : ∃ x0, x0 = x.k := ⟨_, rfl⟩
      obtain ⟨x1, hx1⟩ : ∃ x1, x1 = x.n := ⟨_, rfl⟩
      obtain ⟨x2, hx2⟩ : ∃ x2, x2 = x.s := ⟨_, rfl⟩
      have HXX : Hid (x0 = x.k ∧ x1 = x.n ∧ x2 = x.s) := ⟨hx0, hx1, hx2⟩
      rw [← hx0, ← hx1, ← hx2] at HC
      clear hx0 hx1 hx2
      go_wp2_with fail
      refine (show Calls Tryz.prog 40 _ _ _ from HC.out).mono ?_
      rintro e w2 ⟨lv, rfl, g2⟩
      obtain ⟨al, cl, hlv⟩ := g2.out.1.form
      have W4 : UrAt (w2.alloc (.cells #[.int .i64 x0, .int .i64 x1, .string x2, lv] 24)) w.heap.size d (.slice ao i cap) (l.take i) := (HI.out.1.only g2.out.2 (fun _ _ h => h)).only ((Only.refl (fun _ => False) w2).alloc _) (fun _ _ h => h)
      have N4 : NuAt (w2.alloc (.cells #[.int .i64 x0, .int .i64 x1, .string x2, lv] 24)) w1.heap.size d x lv := g2.out.1.only ((Only.refl (fun _ => False) w2).alloc _) (fun _ _ h => h)
      have O4 : Only (fun _ => False) w (w2.alloc (.cells #[.int .i64 x0, .int .i64 x1, .string x2, lv] 24)) := (HI.out.2.trans g2.out.2 (fun _ _ g => g)).alloc _
      have hlt : ∀ k, (Value.slice ao i cap).ownBlock = some k → k < w1.heap.size := fun k hk => by
        obtain ⟨us, S', hr, _⟩ := HI.out.1
        exact (hr.lt k hk).2
      have hsz1 : w.heap.size ≤ w1.heap.size := HI.out.2.size
      have hsz2 : w1.heap.size ≤ w2.heap.size := g2.out.2.size
      obtain ⟨us, SS, hown, htr, hSS⟩ := W4
      rw [HX.out.2] at hown
      have HOW : Hid ((w2.alloc (.cells #[.int .i64 x0, .int .i64 x1, .string x2, lv] 24)).ownsRow w.heap.size 24 4 (.slice ao i cap) i us) := hown
      have HAL : Hid (_ ∧ _ ∧ NuAt (w2.alloc (.cells #[.int .i64 x0, .int .i64 x1, .string x2, lv] 24)) w1.heap.size d x lv ∧ Only (fun _ => False) w (w2.alloc (.cells #[.int .i64 x0, .int .i64 x1, .string x2, lv] 24)) ∧ w.heap.size ≤ w1.heap.size ∧ (∀ k, (Value.slice ao i cap).ownBlock = some k → k < w1.heap.size)) := ⟨htr, hSS, N4, O4, hsz1, hlt⟩
      subst hlv
      obtain ⟨i0', z0, hi', hz0, hz1, hz2, hz3⟩ := uv_info
      obtain ⟨xl, hxl⟩ : ∃ xl, xl = x.l.length := ⟨_, rfl⟩
      rw [← hxl] at HOW HAL
      rw [← hxl]
      clear N4 O4 hown htr hSS hlt g2 HI HC hxl
      go_wp2_with (at_builtin; refine wpList_append_own_at _ rfl _ _ 22 rfl w.heap.size 24 i0' z0 4 56 Tryz.underlying22 hi' hz0 hz1 hz2 hz3 (by decide) _ i us rfl HOW.out ⟨w2.heap.size, 0, none⟩ 1 1 [.int .i64 x0, .int .i64 x1, .string x2, .slice al xl cl] rfl rfl ?c1 ?c2 ?c3 ?c4 ?c5 ?_)
      case c1 =>
        intro j u hj
        rcases j with _ | _ | _ | _ | j <;> simp at hj <;> subst hj <;> simp [Addr.add]
      case c2 =>
        intro u hu
        simp only [List.mem_cons, List.not_mem_nil, or_false] at hu
        rcases hu with rfl | rfl | rfl | rfl <;> rfl
      case c3 => have := HB.out; unfold maxLen; omega
      case c4 => have := HB.out; omega
      case c5 => simp; omega
      intro v' w4 hown' hgrow _ hat
      obtain ⟨a1, a2, a3, a4, a5, a6⟩ := HAL.out
      obtain ⟨e0, e1, e2⟩ := HXX.out
      have W5 : UrAt w4 w.heap.size d v' (l.take i ++ [x]) := UrAt.snoc hgrow (by rw [HX.out.2]; exact HOW.out) a1 a2 a3 a5 a6 (by rw [HX.out.2, ← e0, ← e1, ← e2]; exact hown') (by simpa using hat)
      rw [HX.out.1] at W5
      have og : Only (fun k => (Value.slice ao i cap).ownBlock = some k) (w2.alloc (.cells #[.int .i64 x0, .int .i64 x1, .string x2, .slice al xl cl] 24)) w4 := (Only.refl _ _).grown hgrow (fun k e _ => e)
      have O5 : Only (fun _ => False) w w4 := a4.trans og (fun k hk e => by have := (HOW.out.lt k e).1; omega)
      obtain ⟨ao', cap', hv'⟩ := W5.form
      have hlen : (l.take (i + 1)).length = i + 1 := by have : N = l.length := HNN.out; have := HB.out; simp; omega
      rw [hlen] at hv'
      subst hv'
      have HK5 : Hid (UrAt w4 w.heap.size d (.slice ao' (i + 1) cap') (l.take (i + 1)) ∧ Only (fun _ => False) w w4) := ⟨W5, O5⟩
      clear W5 O5 og HAL HOW hown' hgrow hat a1 a2 a3 a4 a5 a6 hi' hz0 hz1 hz2 hz3 hsz1 hsz2 e0 e1 e2 HXX hlen
      have hi4 : i ≤ 1048576 := by have := HB.out; omega
      go_wp2
      go_roundw
      case rel => exact ⟨i + 1, ao', cap', rfl, by go_num, by omega, HK5⟩
      case measure => simp only [vuOf]; have := HB.out; omega
    · obtain rfl : i = N := by omega
      have i1 : ¬ (i : Int) < (i : Int) := by omega
      have HK : Hid (UrAt w1 w.heap.size d (.slice ao i cap) l ∧ Only (fun _ => False) w w1) := by
        have := HI.out
        rw [hNl, List.take_length, ← hNl] at this
        exact this
      clear HI hNl hN4
      go_wp2
      go_ret
      exact ⟨ao, cap, rfl, HK⟩
theorem utrees_any : ∀ (d d' : Nat), d' < d → TuE d' 10 false ∧ TuE d' 40 true
  | 0, d', h => by omega
  | d + 1, d', h => by
    have ih := utrees_any d
    by_cases hd : d' < d
    · exact ih d' hd
    · obtain rfl : d' = d := by omega
      cases d' with
      | zero => exact ⟨fun v t w S h => h.elim, fun v t w S h => h.elim⟩
      | succ e => exact ⟨utree_of e (utrees_of e (ih e (by omega)).1) (uitrees_of e (ih e (by omega)).2), uitree_of e (ih e (by omega)).1⟩
theorem uitrees_any (d : Nat) : TuS d 21 true := uitrees_of d (utrees_any (d + 1) d (by omega)).2
end Go.Proofs.YthlloenonjagbaaGreatDoor
namespace Go.Proofs.YthlloenonjagbaaGreatDoor
open Go.RowKit Go.Lib
set_option linter.unusedSimpArgs false
set_option linter.unusedVariables false
theorem ok_ne8 {d : Nat} {t : Vt} (h : okV d false t = true) : t.k ≠ 8 := by
  cases d with
  | zero => cases h
  | succ d =>
    intro e
    have : okV (d + 1) false t = alB t := by
      show (if t.k = 4 ∨ t.k = 5 then _ else alB t) = _
      rw [if_neg (by omega)]
    rw [this] at h
    unfold alB at h
    rw [if_neg (by omega), if_neg (by omega), if_neg (by omega)] at h
    simp only [decide_eq_true_eq] at h
    omega
theorem ti_list {w : World} {S : Nat → Prop} {d : Nat} {t : Vt} {v : Value} {k : Int} (h : TiAt w S (d + 1) false t v) (hk : t.k = k) (hk4 : k = 4 ∨ k = 5) : ∃ ao cap, v = .iface (if k = 4 then 80 else 82) (.agg #[.slice ao t.l.length cap]) ∧ t.l.length ≤ cap ∧ ∀ i x, t.l[i]? = some x → ∃ g q u, ao = some ⟨g, q, none⟩ ∧ S g ∧ w.cell? ⟨g, q + i, none⟩ = some u ∧ TiAt w S d (decide (k = 5)) x u := by
  rcases h with ⟨e, _⟩ | ⟨e, _⟩ | ⟨e, _⟩ | ⟨e, _⟩ | ⟨e, _⟩ | ⟨_, ao, cap, h1, h2, h3⟩
  · omega
  · omega
  · omega
  · omega
  · omega
  · rw [hk] at h1 h3
    exact ⟨ao, cap, h1, h2, h3⟩
theorem miss_list {w : World} {S : Nat → Prop} {d : Nat} {t : Vt} {v : Value} (h : TiAt w S (d + 1) false t v) (hk : ¬ t.k = 4) (h8 : t.k ≠ 8) : ∀ W : World, (Instr.typeAssert v 27 80 true).run Tryz.prog W = .ok (.tuple #[.agg #[.slice none 0 0], .bool false]) W := by
  by_cases h5 : t.k = 5
  · obtain ⟨ao, cap, rfl, _⟩ := ti_list h h5 (.inr rfl)
    exact va_miss 82 80 27 _ Tryz.underlying80 (by intro m h; cases h) (by decide) _ zL _
  · exact (leaf_lq h (by omega)).1.1
theorem miss_quot {w : World} {S : Nat → Prop} {d : Nat} {t : Vt} {v : Value} (h : TiAt w S (d + 1) false t v) (hk : ¬ t.k = 5) (h8 : t.k ≠ 8) : ∀ W : World, (Instr.typeAssert v 27 82 true).run Tryz.prog W = .ok (.tuple #[.agg #[.slice none 0 0], .bool false]) W := by
  by_cases h4 : t.k = 4
  · obtain ⟨ao, cap, rfl, _⟩ := ti_list h h4 (.inl rfl)
    exact va_miss 80 82 27 _ Tryz.underlying82 (by intro m h; cases h) (by decide) _ zQ _
  · exact (leaf_lq h (by omega)).1.2
set_option maxRecDepth 100000 in
set_option maxHeartbeats 4000000 in
theorem same_list (d : Nat) (H : EfV d false 66 46) (a b : Vt) (va vb : Value) (w : World) (S : Nat → Prop) (h1 : TiAt w S (d + 1) false a va) (h2 : TiAt w S (d + 1) false b vb) (ho1 : okV (d + 1) false a = true ∧ ∃ e, SmT e a) (ho2 : okV (d + 1) false b = true ∧ ∃ e, SmT e b) (hk : a.k = 4) : Calls Tryz.prog 46 #[va, vb] w fun e w' => e = .returned (.bool (smV (d + 1) false a b)) ∧ Only (fun _ => False) w w' := by
  obtain ⟨ao, ca, rfl, _, hea⟩ := ti_list h1 hk (by decide)
  have hHit := va_hit 80 27 _ Tryz.underlying80 (by intro m h; cases h)
  have O0 : Hid (Only (fun _ => False) w w) := Only.refl _ _
  by_cases hb : b.k = 4
  · obtain ⟨bo, cb, rfl, _, heb⟩ := ti_list h2 hb (by decide)
    have hsm : smV (d + 1) false a b = smL (smV d false) a.l b.l := by
      show (decide (a.k = b.k) && _) = _
      rw [hk, hb]
      rfl
    have hall : ∀ t : Vt, t.k = 4 → okV (d + 1) false t = true ∧ (∃ e, SmT e t) → (∀ x ∈ t.l, okV d false x = true ∧ ∃ e, SmT e x) ∧ t.l.length ≤ 1048576 := by
      rintro t ht ⟨hok, e, he⟩
      have : okV (d + 1) false t = t.l.all (okV d false) := by
        show (if t.k = 4 ∨ t.k = 5 then t.l.all (okV d (decide (t.k = 5))) else alB t) = _
        rw [if_pos (by omega), ht]
        rfl
      rw [this, List.all_eq_true] at hok
      exact ⟨fun x hx => ⟨hok x hx, he.parts x hx⟩, he.len⟩
    have HE : Hid (∀ w1, Only (fun _ => False) w w1 → Calls Tryz.prog 66 #[.slice ao a.l.length ca, .slice bo b.l.length cb, .func (.func 46) #[] #[]] w1 fun e w' => e = .returned (.bool (smL (smV d false) a.l b.l)) ∧ Only (fun _ => False) w1 w') := fun w1 o1 => H a.l b.l ao bo ca cb w1 S (fun j x hx => by obtain ⟨g, q, u, p1, p2, p3, p4⟩ := hea j x hx; exact ⟨g, q, u, p1, p2, o1.cell p3 (fun g => g), p4.only o1 (fun _ _ g => g)⟩) (fun j x hx => by obtain ⟨g, q, u, p1, p2, p3, p4⟩ := heb j x hx; exact ⟨g, q, u, p1, p2, o1.cell p3 (fun g => g), p4.only o1 (fun _ _ g => g)⟩) (hall a hk ho1).1 (hall b hb ho2).1 (hall a hk ho1).2 (hall b hb ho2).2
    rw [hsm]
    obtain ⟨Z, hZ⟩ : ∃ Z, Z = smL (smV d false) a.l b.l := ⟨_, rfl⟩
    obtain ⟨L, hL⟩ : ∃ L, L = a.l.length := ⟨_, rfl⟩
    obtain ⟨K, hK⟩ : ∃ K, K = b.l.length := ⟨_, rfl⟩
    rw [← hZ, ← hL, ← hK] at HE
    rw [← hZ, ← hL, ← hK]
    clear h1 h2 ho1 ho2 hk hb hea heb hsm hall hZ hL hK H
    go_enter Tryz.func46, Tryz.ntmps46
    go_wp2_with fail
    refine (show Calls Tryz.prog 66 _ _ _ from HE.out _ (by repeat' first | exact O0.out | apply Only.alloc)).mono ?_
    rintro e w1 ⟨rfl, o1⟩
    have O1 : Hid (Only (fun _ => False) w w1) := Only.trans (show Only (fun _ => False) w _ by repeat' first | exact (Only.refl _ _) | apply Only.alloc) o1 (fun _ _ g => g)
    clear HE o1
    go_wp2
    go_ret
    exact ⟨rfl, O1.out⟩
  · have hsm : smV (d + 1) false a b = false := by
      show (decide (a.k = b.k) && _) = _
      rw [decide_eq_false (by omega), Bool.false_and]
    have hbm := miss_list h2 hb (ok_ne8 ho2.1)
    rw [hsm]
    obtain ⟨L, hL⟩ : ∃ L, L = a.l.length := ⟨_, rfl⟩
    rw [← hL]
    clear h1 h2 ho1 ho2 hk hb hea hsm hL H
    go_enter Tryz.func46, Tryz.ntmps46
    go_wp2
    go_ret
    exact ⟨rfl, (by repeat' first | exact O0.out | apply Only.alloc)⟩
set_option maxRecDepth 100000 in
set_option maxHeartbeats 4000000 in
theorem same_quot (d : Nat) (H : EfV d true 67 68) (a b : Vt) (va vb : Value) (w : World) (S : Nat → Prop) (h1 : TiAt w S (d + 1) false a va) (h2 : TiAt w S (d + 1) false b vb) (ho1 : okV (d + 1) false a = true ∧ ∃ e, SmT e a) (ho2 : okV (d + 1) false b = true ∧ ∃ e, SmT e b) (hk : a.k = 5) : Calls Tryz.prog 46 #[va, vb] w fun e w' => e = .returned (.bool (smV (d + 1) false a b)) ∧ Only (fun _ => False) w w' := by
  obtain ⟨ao, ca, rfl, _, hea⟩ := ti_list h1 hk (by decide)
  have hHit := va_hit 82 27 _ Tryz.underlying82 (by intro m h; cases h)
  have hMissA := va_miss 82 80 27 _ Tryz.underlying80 (by intro m h; cases h) (by decide) _ zL
  have O0 : Hid (Only (fun _ => False) w w) := Only.refl _ _
  by_cases hb : b.k = 5
  · obtain ⟨bo, cb, rfl, _, heb⟩ := ti_list h2 hb (by decide)
    have hsm : smV (d + 1) false a b = smL (smV d true) a.l b.l := by
      show (decide (a.k = b.k) && _) = _
      rw [hk, hb]
      rfl
    have hall : ∀ t : Vt, t.k = 5 → okV (d + 1) false t = true ∧ (∃ e, SmT e t) → (∀ x ∈ t.l, okV d true x = true ∧ ∃ e, SmT e x) ∧ t.l.length ≤ 1048576 := by
      rintro t ht ⟨hok, e, he⟩
      have : okV (d + 1) false t = t.l.all (okV d true) := by
        show (if t.k = 4 ∨ t.k = 5 then t.l.all (okV d (decide (t.k = 5))) else alB t) = _
        rw [if_pos (by omega), ht]
        rfl
      rw [this, List.all_eq_true] at hok
      exact ⟨fun x hx => ⟨hok x hx, he.parts x hx⟩, he.len⟩
    have HE : Hid (∀ w1, Only (fun _ => False) w w1 → Calls Tryz.prog 67 #[.slice ao a.l.length ca, .slice bo b.l.length cb, .func (.func 68) #[] #[]] w1 fun e w' => e = .returned (.bool (smL (smV d true) a.l b.l)) ∧ Only (fun _ => False) w1 w') := fun w1 o1 => H a.l b.l ao bo ca cb w1 S (fun j x hx => by obtain ⟨g, q, u, p1, p2, p3, p4⟩ := hea j x hx; exact ⟨g, q, u, p1, p2, o1.cell p3 (fun g => g), p4.only o1 (fun _ _ g => g)⟩) (fun j x hx => by obtain ⟨g, q, u, p1, p2, p3, p4⟩ := heb j x hx; exact ⟨g, q, u, p1, p2, o1.cell p3 (fun g => g), p4.only o1 (fun _ _ g => g)⟩) (hall a hk ho1).1 (hall b hb ho2).1 (hall a hk ho1).2 (hall b hb ho2).2
    rw [hsm]
    obtain ⟨Z, hZ⟩ : ∃ Z, Z = smL (smV d true) a.l b.l := ⟨_, rfl⟩
    obtain ⟨L, hL⟩ : ∃ L, L = a.l.length := ⟨_, rfl⟩
    obtain ⟨K, hK⟩ : ∃ K, K = b.l.length := ⟨_, rfl⟩
    rw [← hZ, ← hL, ← hK] at HE
    rw [← hZ, ← hL, ← hK]
    clear h1 h2 ho1 ho2 hk hb hea heb hsm hall hZ hL hK H
    go_enter Tryz.func46, Tryz.ntmps46
    go_wp2_with fail
    refine (show Calls Tryz.prog 67 _ _ _ from HE.out _ (by repeat' first | exact O0.out | apply Only.alloc)).mono ?_
    rintro e w1 ⟨rfl, o1⟩
    have O1 : Hid (Only (fun _ => False) w w1) := Only.trans (show Only (fun _ => False) w _ by repeat' first | exact (Only.refl _ _) | apply Only.alloc) o1 (fun _ _ g => g)
    clear HE o1
    go_wp2
    go_ret
    exact ⟨rfl, O1.out⟩
  · have hsm : smV (d + 1) false a b = false := by
      show (decide (a.k = b.k) && _) = _
      rw [decide_eq_false (by omega), Bool.false_and]
    have hbm := miss_quot h2 hb (ok_ne8 ho2.1)
    rw [hsm]
    obtain ⟨L, hL⟩ : ∃ L, L = a.l.length := ⟨_, rfl⟩
    rw [← hL]
    clear h1 h2 ho1 ho2 hk hb hea hsm hL H
    go_enter Tryz.func46, Tryz.ntmps46
    go_wp2
    go_ret
    exact ⟨rfl, (by repeat' first | exact O0.out | apply Only.alloc)⟩
end Go.Proofs.YthlloenonjagbaaGreatDoor
