import Derived.Test.YtenjollhlgjjdaaGreatDoorGaa
import Derived.Test.YtenjollhlgjjdaaGreatDoorGap
import Derived.Test.YtenjollhlgjjdaaGreatDoorGal
import Derived.Test.YtenjollhlgjjdaaGreatDoorGao
import Derived.Test.YtenjollhlgjjdaaGreatDoorGae
import Derived.Deep.RegionHeld3
import Derived.Test.YtenjollhlgjjdaaGreatDoorGak
/-        -/
set_option linter.unusedSimpArgs false
set_option linter.unusedVariables false
set_option maxRecDepth 100000
set_option maxHeartbeats 40000000
namespace Go.Proofs.YtenjollhlgjjdaaGreatDoor
open Go.RowKit Go.Lib
def catL (ls : List ByteArray) : ByteArray := ls.foldl (· ++ ·) ⟨#[]⟩
theorem cat_snoc (ls : List ByteArray) (s : ByteArray) : catL (ls ++ [s]) = catL ls ++ s := by simp [catL]
theorem cat_tx : ∀ (q : List Nat), catL (q.map fun c => tx [c]) = tx q := by
 intro q
 have key : ∀ (q : List Nat) (r : ByteArray), (q.map fun c => tx [c]).foldl (· ++ ·) r = r ++ tx q := by
  intro q
  induction q with
  | nil =>
    intro r
    apply ByteArray.ext
    simp [tx, enL, ByteArray.data_append]
  | cons c q ih =>
    intro r
    rw [List.map_cons, List.foldl_cons, ih, ByteArray.append_assoc]
    congr 1
    apply ByteArray.ext
    simp [tx, enL, ByteArray.data_append]
 unfold catL
 rw [key]
 apply ByteArray.ext
 simp [ByteArray.data_append]
theorem joined_row {ls : List ByteArray} {ao : Option Addr} {c : Nat} {w : World} (hc : ∀ (j : Nat) (s : ByteArray), ls[j]? = some s → ∃ g o, ao = some ⟨g, o, none⟩ ∧ w.cell? ⟨g, o + j, none⟩ = some (.string s)) (hl : ls.length ≤ 268435456) (hz : ∀ j, (catL (ls.take j)).size ≤ 268435456) : Cz 98 #[.slice ao ls.length c] w fun e w' => e = .returned (.string (catL ls)) ∧ w' = w := by
 obtain ⟨N, hN⟩ : ∃ N, N = ls.length := ⟨_, rfl⟩
 have HC : Hid ((∀ (j : Nat) (s : ByteArray), ls[j]? = some s → ∃ g o, ao = some ⟨g, o, none⟩ ∧ w.cell? ⟨g, o + j, none⟩ = some (.string s)) ∧ N = ls.length ∧ ∀ j, (catL (ls.take j)).size ≤ 268435456) := ⟨hc, hN, hz⟩
 have hNb : N ≤ 268435456 := by omega
 rw [← hN]
 clear hc hl hz hN
 go_enter Tryz.func98, Tryz.ntmps98
 go_wp2
 go_loopw [4, 3] (fun r x wr => ∃ j : Nat, r = .int .i64 (j : Int) ∧ x = .string (catL (ls.take j)) ∧ j ≤ N ∧ wr = w) (fun r _ _ => N - vuOf r)
 case atStart => exact ⟨0, rfl, rfl, by omega, rfl⟩
 case round =>
  obtain ⟨j, rfl, rfl, hj, rfl⟩ := hrel
  by_cases hjN : j < N
  ·obtain ⟨s, hs⟩ : ∃ s, ls[j]? = some s := ⟨_, List.getElem?_eq_getElem (by have := HC.out.2.1; omega)⟩
   obtain ⟨g, o, rfl, hcell⟩ := HC.out.1 j s hs
   have hsn : catL (ls.take (j + 1)) = catL (ls.take j) ++ s := by
    rw [List.take_add_one, hs]
    exact cat_snoc _ _
   obtain ⟨X, hX⟩ : ∃ X, X = catL (ls.take j) := ⟨_, rfl⟩
   have hz1 := HC.out.2.2 (j + 1)
   rw [hsn, ← hX, ByteArray.size_append] at hz1
   rw [← hX] at hsn ⊢
   have HS : Hid (X ++ s = catL (ls.take (j + 1))) := hsn.symm
   have i1 : (j : Int) < (N : Int) := by omega
   have i0 : (0 : Int) ≤ (j : Int) := by omega
   clear hsn hs hX HC
   go_wp2
   go_roundw
   case rel => exact ⟨j + 1, by go_num, by rw [← HS.out], by omega, trivial⟩
   case measure => simp only [vuOf]; omega
  ·obtain rfl : j = N := by omega
   have i1 : ¬ (j : Int) < (j : Int) := by omega
   have hS : catL (ls.take j) = catL ls := by rw [HC.out.2.1, List.take_of_length_le (Nat.le_refl _)]
   have HS : Hid (catL (ls.take j) = catL ls) := hS
   clear hS
   obtain ⟨X, hX⟩ : ∃ X, X = catL (ls.take j) := ⟨_, rfl⟩
   rw [← hX] at HS ⊢
   clear hX HC hjN hj
   go_wp2
   go_ret
   exact ⟨by rw [← HS.out]; rfl, rfl⟩
theorem StAt.cells {w : World} {B n cap : Nat} {ao : Option Addr} {ls : List ByteArray} (h : StAt w B (.slice ao n cap) ls) : ∀ (j : Nat) (s : ByteArray), ls[j]? = some s → ∃ g, ao = some ⟨g, 0, none⟩ ∧ B ≤ g ∧ w.cell? ⟨g, 0 + j, none⟩ = some (.string s) := fun j s hs => by
 rcases h.2 with ⟨h1, h2⟩ | ⟨g, cap', cur, fz, h1, h2, h3, h4, h5, h6, h7⟩
 ·have := (List.getElem?_eq_some_iff.1 hs).1
  omega
 ·cases h1
  refine ⟨g, rfl, h2, ?_⟩
  have hj := (List.getElem?_eq_some_iff.1 hs).1
  have e := congrArg (fun l => l[j]?) h7.2
  rw [List.getElem?_take, if_pos (by omega), List.getElem?_map, hs] at e
  rw [Nat.zero_add]
  simpa [World.cell?, h3] using e
theorem only_of {w w' : World} (h : Below w.heap.size w w') : Oz w w' := ⟨h.1, h.2, h.3, h.4, fun k hk _ => h.5 k hk⟩
theorem rlen_any (k n : Int) (s : ByteArray) (hs : s.size ≤ 268435456) (ao : Option Addr) (L c : Nat) (w : World) : Cz 66 #[.agg #[.int .i64 k, .int .i64 n, .string s, .slice ao L c]] w fun e w' => e = .returned (.int .i64 ((if k = 2 then (rns s).length else L : Nat) : Int)) ∧ Oz w w' := by
 have O0 : Hid (Oz w w) := Only.refl _ _
 have HC : Hid (∀ W, Cz 68 #[.string s] W fun e w' => ∃ ao cap, e = .returned (.slice ao (rns s).length cap) ∧ Oz W w') := fun W => (characters_any s hs W).mono fun e w' g => by
  obtain ⟨a1, c1, he, g⟩ := g
  have e1 : (chT s).length = (rns s).length := by simp [chT]
  rw [e1] at he
  exact ⟨a1, c1, he, only_of g.out.2⟩
 obtain ⟨M, hM⟩ : ∃ M, M = (rns s).length := ⟨_, rfl⟩
 rw [← hM] at HC ⊢
 clear hM hs
 by_cases h2 : k = 2
 ·rw [if_pos h2]
  subst h2
  go_enter Tryz.func66, Tryz.ntmps66
  go_wp2_with fail
  refine (show Cz 68 _ _ _ from HC.out _).mono ?_
  rintro e w1 ⟨a1, c1, rfl, o1⟩
  have O1 : Hid (Oz w w1) := (O0.out.alloc _).trans o1 (fun _ _ g => g)
  clear HC o1
  go_wp2
  go_ret
  exact ⟨rfl, O1.out⟩
 ·rw [if_neg h2]
  go_enter Tryz.func66, Tryz.ntmps66
  go_wp2
  go_ret
  exact ⟨rfl, O0.out.alloc _⟩
def CpS (d : Nat) : Prop := ∀ (v : Value) (l : List Vt) (w : World) (S : Nat → Prop), VsAt w S d l v → l.length ≤ 1048576 → (∀ x ∈ l, ∃ e, SmT e x) → Cz 21 #[v] w fun e w' => ∃ ao cap, e = .returned (.slice ao l.length cap) ∧ Hid (UrAt w' w.heap.size (d - 1) (.slice ao l.length cap) l ∧ Oz w w')
def CpE (d : Nat) : Prop := ∀ (x : Vt) (lv : Value) (w : World) (S : Nat → Prop), VsAt w S d x.l lv → (∃ e, SmT e x) → Cz 43 #[.agg #[.int .i64 x.k, .int .i64 x.n, .string x.s, lv]] w fun e w' => ∃ lv', e = .returned (.agg #[.int .i64 x.k, .int .i64 x.n, .string x.s, lv']) ∧ Hid (NuAt w' w.heap.size d x lv' ∧ Oz w w')
theorem rcopyall_of (d : Nat) (H : CpE d) : CpS (d + 1) := by
 intro v l w S hq hl hw
 obtain ⟨av, cv, rfl, hcv, hel⟩ := hq
 have HE : Hid (∀ (j : Nat) (x : Vt), l[j]? = some x → ∃ g k ax cx, av = some ⟨g, k, none⟩ ∧ (∀ w1, Oz w w1 → w1.cell? ⟨g, k + j * 4, none⟩ = some (.int .i64 x.k) ∧ w1.cell? ⟨g, k + j * 4 + 1, none⟩ = some (.int .i64 x.n) ∧ w1.cell? ⟨g, k + j * 4 + 2, none⟩ = some (.string x.s) ∧ w1.cell? ⟨g, k + j * 4 + 3, none⟩ = some (.slice ax x.l.length cx)) ∧ ∀ w1, Oz w w1 → Cz 43 #[.agg #[.int .i64 x.k, .int .i64 x.n, .string x.s, .slice ax x.l.length cx]] w1 fun e w' => ∃ lv, e = .returned (.agg #[.int .i64 x.k, .int .i64 (x.n), .string (x.s), lv]) ∧ Hid (NuAt w' w1.heap.size d x lv ∧ Oz w1 w')) := by
  intro j x hx
  obtain ⟨g, k, lx, ha, hg, hc, ht⟩ := hel j x hx
  obtain ⟨ax, cx, rfl⟩ := ht.form
  exact ⟨g, k, ax, cx, ha, fun w1 o => ⟨o.cell hc.1 (fun g => g), o.cell hc.2.1 (fun g => g), o.cell hc.2.2.1 (fun g => g), o.cell hc.2.2.2 (fun g => g)⟩, fun w1 o1 => H x _ w1 S (ht.only o1) (hw x (List.mem_of_getElem? hx))⟩
 have HLB : Hid (l.length ≤ 1048576) := hl
 clear hcv hel hl hw H
 obtain ⟨N, hN⟩ : ∃ N, N = l.length := ⟨_, rfl⟩
 have HNN : Hid (N = l.length) := hN
 rw [← hN]
 clear hN
 go_enter Tryz.func21, Tryz.ntmps21
 go_wp2
 go_loopw [3, 4] (fun r3 r4 wr => ∃ (i : Nat) (ao : Option Addr) (cap : Nat), r3 = .slice ao i cap ∧ r4 = .int .i64 (i : Int) ∧ i ≤ N ∧ Hid (UrAt wr w.heap.size d (.slice ao i cap) (l.take i) ∧ Oz w wr)) (fun _ r4 _ => N - vuOf r4)
 case atStart => exact ⟨0, none, 0, rfl, rfl, Nat.zero_le _, ur_nil _ _ _, Only.refl _ _⟩
 case round =>
  obtain ⟨i, ao, cap, rfl, rfl, hi, HI⟩ := hrel
  obtain ⟨w1, rfl⟩ : ∃ w1, w1 = wr := ⟨_, rfl⟩
  have hNl : N = l.length := HNN.out
  have hN4 : l.length ≤ 1048576 := HLB.out
  by_cases hiN : i < N
  ·obtain ⟨x, hx⟩ : ∃ x, l[i]? = some x := ⟨l[i]'(by omega), List.getElem?_eq_getElem (by omega)⟩
   obtain ⟨g, k, ax, cx, rfl, hc, hcall⟩ := HE.out i x hx
   obtain ⟨d0, d1, d2, d3⟩ := hc w1 HI.out.2
   have HC : Hid (Cz 43 #[.agg #[.int .i64 x.k, .int .i64 x.n, .string x.s, .slice ax x.l.length cx]] w1 fun e w' => ∃ lv, e = .returned (.agg #[.int .i64 x.k, .int .i64 (x.n), .string (x.s), lv]) ∧ Hid (NuAt w' w1.heap.size d x lv ∧ Oz w1 w')) := hcall w1 HI.out.2
   have HX : Hid (l.take i ++ [x] = l.take (i + 1) ∧ (l.take i).length = i) := by
    have hil : i < l.length := by omega
    refine ⟨?_, by simp; omega⟩
    rw [List.take_add_one, hx]
    rfl
   have HB : Hid (i < N ∧ N ≤ 1048576) := ⟨hiN, by omega⟩
   have i1 : (i : Int) < (N : Int) := by omega
   have i0 : (0 : Int) ≤ (i : Int) := by omega
   clear hc hcall HE hNl hN4 hx
   obtain ⟨x0, hx0⟩ : ∃ x0, x0 = x.k := ⟨_, rfl⟩
   obtain ⟨x1, hx1⟩ : ∃ x1, x1 = x.n := ⟨_, rfl⟩
   obtain ⟨x2, hx2⟩ : ∃ x2, x2 = x.s := ⟨_, rfl⟩
   have HXX : Hid (x0 = x.k ∧ x1 = x.n ∧ x2 = x.s) := ⟨hx0, hx1, hx2⟩
   obtain ⟨x3, hx3⟩ : ∃ x3, x3 = x.l.length := ⟨_, rfl⟩
   rw [← hx0, ← hx1, ← hx2, ← hx3] at HC
   rw [← hx0] at d0
   rw [← hx1] at d1
   rw [← hx2] at d2
   rw [← hx3] at d3
   clear hx0 hx1 hx2 hx3
   go_wp2_with fail
   refine (show Cz 43 _ _ _ from HC.out).mono ?_
   rintro e w2 ⟨lv, rfl, g2⟩
   obtain ⟨al, cl, hlv⟩ := g2.out.1.form
   have W4 : UrAt (w2.alloc (.cells #[.int .i64 x0, .int .i64 x1, .string x2, lv] 38)) w.heap.size d (.slice ao i cap) (l.take i) := (HI.out.1.only g2.out.2 (fun _ _ h => h)).only ((Only.refl (fun _ => False) w2).alloc _) (fun _ _ h => h)
   have N4 : NuAt (w2.alloc (.cells #[.int .i64 x0, .int .i64 x1, .string x2, lv] 38)) w1.heap.size d x lv := g2.out.1.only ((Only.refl (fun _ => False) w2).alloc _) (fun _ _ h => h)
   have O4 : Oz w (w2.alloc (.cells #[.int .i64 x0, .int .i64 x1, .string x2, lv] 38)) := (HI.out.2.trans g2.out.2 (fun _ _ g => g)).alloc _
   have hlt : ∀ k, (Value.slice ao i cap).ownBlock = some k → k < w1.heap.size := fun k hk => by
    obtain ⟨us, S', hr, _⟩ := HI.out.1
    exact (hr.lt k hk).2
   have hsz1 : w.heap.size ≤ w1.heap.size := HI.out.2.size
   have hsz2 : w1.heap.size ≤ w2.heap.size := g2.out.2.size
   obtain ⟨us, SS, hown, htr, hSS⟩ := W4
   rw [HX.out.2] at hown
   have HOW : Hid ((w2.alloc (.cells #[.int .i64 x0, .int .i64 x1, .string x2, lv] 38)).ownsRow w.heap.size 38 4 (.slice ao i cap) i us) := hown
   have HAL : Hid (_ ∧ _ ∧ NuAt (w2.alloc (.cells #[.int .i64 x0, .int .i64 x1, .string x2, lv] 38)) w1.heap.size d x lv ∧ Oz w (w2.alloc (.cells #[.int .i64 x0, .int .i64 x1, .string x2, lv] 38)) ∧ w.heap.size ≤ w1.heap.size ∧ (∀ k, (Value.slice ao i cap).ownBlock = some k → k < w1.heap.size)) := ⟨htr, hSS, N4, O4, hsz1, hlt⟩
   subst hlv
   obtain ⟨i0', z0, hi', hz0, hz1, hz2, hz3⟩ := uv_info
   obtain ⟨xl, hxl⟩ : ∃ xl, xl = x.l.length := ⟨_, rfl⟩
   rw [← hxl] at HOW HAL
   rw [← hxl]
   clear N4 O4 hown htr hSS hlt g2 HI HC hxl
   go_wp2_with (at_builtin; refine wpList_append_own_at _ rfl _ _ 22 rfl w.heap.size 38 i0' z0 4 56 Tryz.underlying22 hi' hz0 hz1 hz2 hz3 (by decide) _ i us rfl HOW.out ⟨w2.heap.size, 0, none⟩ 1 1 [.int .i64 x0, .int .i64 x1, .string x2, .slice al xl cl] rfl rfl ?c1 ?c2 ?c3 ?c4 ?c5 ?_)
   case c1 =>
    intro j u hj
    rcases j with _ | _ | _ | _ | j <;> simp at hj <;> subst hj <;> simp [Addr.add]
   case c2 =>
    intro u hu
    simp only [List.mem_cons, List.not_mem_nil, or_false] at hu
    rcases hu with rfl | rfl | rfl | rfl <;> rfl
   case c3 => have := HB.out; unfold maxLen; omega
   case c4 => have := HB.out; omega
   case c5 => simp; omega
   intro v' w4 hown' hgrow _ hat
   obtain ⟨a1, a2, a3, a4, a5, a6⟩ := HAL.out
   obtain ⟨e0, e1, e2⟩ := HXX.out
   have W5 : UrAt w4 w.heap.size d v' (l.take i ++ [x]) := UrAt.snoc hgrow (by rw [HX.out.2]; exact HOW.out) a1 a2 a3 a5 a6 (by rw [HX.out.2, ← e0, ← e1, ← e2]; exact hown') (by simpa using hat)
   rw [HX.out.1] at W5
   have og : Only (fun k => (Value.slice ao i cap).ownBlock = some k) (w2.alloc (.cells #[.int .i64 x0, .int .i64 x1, .string x2, .slice al xl cl] 38)) w4 := (Only.refl _ _).grown hgrow (fun k e _ => e)
   have O5 : Oz w w4 := a4.trans og (fun k hk e => by have := (HOW.out.lt k e).1; omega)
   obtain ⟨ao', cap', hv'⟩ := W5.form
   have hlen : (l.take (i + 1)).length = i + 1 := by have : N = l.length := HNN.out; have := HB.out; simp; omega
   rw [hlen] at hv'
   subst hv'
   have HK5 : Hid (UrAt w4 w.heap.size d (.slice ao' (i + 1) cap') (l.take (i + 1)) ∧ Oz w w4) := ⟨W5, O5⟩
   clear W5 O5 og HAL HOW hown' hgrow hat a1 a2 a3 a4 a5 a6 hi' hz0 hz1 hz2 hz3 hsz1 hsz2 e0 e1 e2 HXX hlen
   have hi4 : i ≤ 1048576 := by have := HB.out; omega
   go_wp2
   go_roundw
   case rel => exact ⟨i + 1, ao', cap', rfl, by go_num, by omega, HK5⟩
   case measure => simp only [vuOf]; have := HB.out; omega
  ·obtain rfl : i = N := by omega
   have i1 : ¬ (i : Int) < (i : Int) := by omega
   have HK : Hid (UrAt w1 w.heap.size d (.slice ao i cap) l ∧ Oz w w1) := by
    have := HI.out
    rw [hNl, List.take_length, ← hNl] at this
    exact this
   clear HI hNl hN4
   go_wp2
   go_ret
   exact ⟨ao, cap, rfl, HK⟩
theorem rcopy_of (d : Nat) (H : CpS (d + 1)) : CpE (d + 1) := by
 intro x lv w S hv hs
 obtain ⟨av, cv, rfl⟩ := hv.form
 have hpl : x.l.length ≤ 1048576 ∧ ∀ y ∈ x.l, ∃ e, SmT e y := by
  obtain ⟨e, he⟩ := hs
  cases e with
  | zero => exact he.elim
  | succ e => exact ⟨he.2.1, fun y hy => ⟨e, he.2.2.2.2 y hy⟩⟩
 have HC : Hid (∀ W, Oz w W → Cz 21 #[.slice av x.l.length cv] W fun e w' => ∃ ao cap, e = .returned (.slice ao x.l.length cap) ∧ Hid (UrAt w' W.heap.size d (.slice ao x.l.length cap) x.l ∧ Oz W w')) := fun W o => H _ x.l W S (hv.only o) hpl.1 hpl.2
 obtain ⟨k, hk⟩ : ∃ k, k = x.k := ⟨_, rfl⟩
 obtain ⟨n, hn⟩ : ∃ n, n = x.n := ⟨_, rfl⟩
 obtain ⟨s, hss⟩ : ∃ s, s = x.s := ⟨_, rfl⟩
 obtain ⟨L, hL⟩ : ∃ L, L = x.l.length := ⟨_, rfl⟩
 rw [← hL] at HC
 rw [← hk, ← hn, ← hss, ← hL]
 have HL : Hid (L = x.l.length) := hL
 have O0 : Hid (Oz w w) := Only.refl _ _
 clear hv hs hpl hk hn hss hL H
 go_enter Tryz.func43, Tryz.ntmps43
 go_wp2_with fail
 refine (show Cz 21 _ _ _ from HC.out _ ((O0.out.alloc _).alloc _)).mono ?_
 rintro e w1 ⟨ao, cap, rfl, g1⟩
 have RA : w1.heap[w.heap.size]? = some (.cells #[.int .i64 k, .int .i64 n, .string s, .slice av L cv] 38) := (g1.out.2.block w.heap.size (by simp; omega) (fun h => h)).trans (((((Only.refl (fun _ => False) (w.alloc (.cells #[.int .i64 k, .int .i64 n, .string s, .slice av L cv] 38)))).alloc _).block w.heap.size (by simp) (fun h => h)).trans (valloc_at _ _ _ rfl))
 have RB : w1.heap[w.heap.size + 1]? = some (.cells #[.int .i64 0, .int .i64 0, .string ⟨#[]⟩, .slice none 0 0] 38) := (g1.out.2.block (w.heap.size + 1) (by simp) (fun h => h)).trans (valloc_at _ _ _ (by simp))
 have G1 : Hid (NuAt w1 (w.heap.size + 2) (d + 1) x (.slice ao L cap) ∧ Oz w w1) := by
  have h1 := g1.out.1
  rw [show ((w.alloc (.cells #[.int .i64 k, .int .i64 n, .string s, .slice av L cv] 38)).alloc (.cells #[.int .i64 0, .int .i64 0, .string ⟨#[]⟩, .slice none 0 0] 38)).heap.size = w.heap.size + 2 by simp] at h1
  exact ⟨h1.tree rfl, ((O0.out.alloc _).alloc _).trans g1.out.2 (fun _ _ g => g)⟩
 clear g1 HC O0
 obtain ⟨B, hBe⟩ : ∃ B, B = w.heap.size := ⟨_, rfl⟩
 have HE : Hid (B = w.heap.size) := hBe
 rw [← hBe] at RA RB G1 ⊢
 clear hBe
 obtain ⟨V3, hV3⟩ : ∃ V3 : Value, V3 = .slice ao L cap := ⟨_, rfl⟩
 have a0 := vblk_cells RA 0
 have a1 := vblk_cells RA 1
 have a2 := vblk_cells RA 2
 have a3 := vblk_cells RA 3
 have za := blk_froz RA 3
 simp only [List.getElem?_toArray, List.getElem?_cons_zero, List.getElem?_cons_succ] at a0 a1 a2 a3
 have ne : ∀ (i j : Nat) (v : Value), i ≠ j → (w1.setCell ⟨B, i, none⟩ v).cell? ⟨B, j, none⟩ = w1.cell? ⟨B, j, none⟩ := fun i j v g => by apply World.cell?_setCell_other; intro e; exact g (by injection e)
 have d0 : (w1.setCell ⟨B, 3, none⟩ (.slice ao L cap)).cell? ⟨B, 0, none⟩ = some (.int .i64 k) := by rw [ne 3 0 _ (by omega)]; exact a0
 have d1 : (w1.setCell ⟨B, 3, none⟩ (.slice ao L cap)).cell? ⟨B, 1, none⟩ = some (.int .i64 n) := by rw [ne 3 1 _ (by omega)]; exact a1
 have d2 : (w1.setCell ⟨B, 3, none⟩ (.slice ao L cap)).cell? ⟨B, 2, none⟩ = some (.string s) := by rw [ne 3 2 _ (by omega)]; exact a2
 have d3 : (w1.setCell ⟨B, 3, none⟩ (.slice ao L cap)).cell? ⟨B, 3, none⟩ = some (.slice ao L cap) := World.cell?_setCell_same' _ _ _ (by rw [a3]; rfl)
 have RB2 : (w1.setCell ⟨B, 3, none⟩ (.slice ao L cap)).heap[B + 1]? = some (.cells #[.int .i64 0, .int .i64 0, .string ⟨#[]⟩, .slice none 0 0] 38) := (Below.heap_setCell _ _ _ _ (by dsimp only; omega)).trans RB
 have HRB : Hid ((w1.setCell ⟨B, 3, none⟩ (.slice ao L cap)).heap[B + 1]? = some (.cells #[.int .i64 0, .int .i64 0, .string ⟨#[]⟩, .slice none 0 0] 38)) := RB2
 have b0 := vblk_cells RB2 0
 have b1 := vblk_cells RB2 1
 have b2 := vblk_cells RB2 2
 have b3 := vblk_cells RB2 3
 have z0 := blk_froz RB2 0
 have z1 := blk_froz RB2 1
 have z2 := blk_froz RB2 2
 have z3 := blk_froz RB2 3
 simp only [List.getElem?_toArray, List.getElem?_cons_zero, List.getElem?_cons_succ] at b0 b1 b2 b3
 clear RA RB RB2 hV3 ne
 go_wp2
 obtain ⟨p0, p1, p2, p3⟩ := set4 HRB.out rfl (.int .i64 k) (.int .i64 n) (.string s) (.slice ao L cap)
 have OB : Only (fun b => b = B) w1 (w1.setCell ⟨B, 3, none⟩ (.slice ao L cap)) := (Only.refl _ _).setCell _ _ (fun _ => rfl)
 have OB2 := @uonly4 (w1.setCell ⟨B, 3, none⟩ (.slice ao L cap)) (B + 1) (.int .i64 k) (.int .i64 n) (.string s) (.slice ao L cap)
 have OA : Only (fun b => b = B ∨ b = B + 1) w1 _ := (OB.mono (bs' := fun b => b = B ∨ b = B + 1) (fun _ _ h => .inl h)).trans OB2 (fun _ _ h => .inr h)
 have hBe : B = w.heap.size := HE.out
 refine bodyPost_ret (uresults_v rfl _ _ (B + 1) p0 p1 p2 p3 rfl) rfl ⟨_, rfl, (G1.out.1.only OA (fun b hb g => by omega)).lower (by omega), G1.out.2.trans OA (fun b h e => by omega)⟩
theorem rcopy_all : ∀ d, CpE d
 | 0 => fun x lv w S h _ => h.elim
 | d + 1 => rcopy_of d (rcopyall_of d (rcopy_all d))
theorem rcopyall_all (d : Nat) : CpS (d + 1) := rcopyall_of d (rcopy_all d)
theorem cc_Value {d : Nat} {l1 l2 : List Vt} {a1 a2 : Option Addr} {c1 c2 : Nat} {w : World} {S : Nat → Prop} (h1 : PsAt w S d false l1 a1) (h2 : PsAt w S d false l2 a2) (hS : ∀ b, S b → b < w.heap.size) (hn1 : l1.length ≤ 1048576) (hn2 : l2.length ≤ 1048576) : ∀ (Q : Nat) (W : World), Oz w W → W.cell? ⟨Q, 0, none⟩ = some (.slice a1 l1.length c1) → W.cell? ⟨Q, 1, none⟩ = some (.slice a2 l2.length c2) →
  Cz 17 #[.slice (some ⟨Q, 0, none⟩) 2 2] W fun e w' => ∃ ao cap, e = .returned (.slice ao (l1.length + l2.length) cap) ∧ Hid ((l1 ++ l2).length ≤ cap ∧ (∃ S', PsAt w' S' d false (l1 ++ l2) ao ∧ ∀ b, S' b → b < w'.heap.size) ∧ Oz W w') := fun Q W o q0 q1 => by
 have p1 := h1.only o (fun _ _ g => g)
 have p2 := h2.only o (fun _ _ g => g)
 obtain ⟨us, u1, u2, u3, u4⟩ := ps_row p1
 obtain ⟨vs, v1, v2, v3, v4⟩ := ps_row p2
 have e1 : a1 = none → us = [] := fun e => List.length_eq_zero_iff.1 (by
  rw [u1]
  cases l1 with
  | nil => rfl
  | cons t r => obtain ⟨g, q, u, ha, _⟩ := p1 0 t rfl; rw [e] at ha; cases ha)
 have e2 : a2 = none → vs = [] := fun e => List.length_eq_zero_iff.1 (by
  rw [v1]
  cases l2 with
  | nil => rfl
  | cons t r => obtain ⟨g, q, u, ha, _⟩ := p2 0 t rfl; rw [e] at ha; cases ha)
 have cc := concat_Value us vs a1 a2 c1 c2 Q W u2 v2 (by omega) (by omega) u3 v3 e1 e2 (by rw [u1]; exact q0) (by rw [v1]; exact q1)
 refine cc.mono fun e w' g => ?_
 obtain ⟨v, he, ⟨ao, cap, hv⟩, g1, g2⟩ := g
 have e5 : (us ++ vs).length = l1.length + l2.length := by rw [List.length_append, u1, v1]
 refine ⟨ao, cap, by rw [he, hv, e5], ?_, ⟨fun b => S b ∨ v.ownBlock = some b, fun j x hx => ?_, fun b hb => ?_⟩, g2⟩
 ·rw [hv] at g1
  rcases g1.2 with ⟨h3, h4⟩ | ⟨g, cp, cur, hv', hB, hg, hn, _⟩
  ·rw [List.length_append, ← u1, ← v1, ← List.length_append, h4]; exact Nat.zero_le _
  ·cases hv'
   rw [List.length_append, ← u1, ← v1, ← List.length_append]
   exact hn
 ·have hgen : ∃ u, (us ++ vs)[j]? = some u ∧ TiAt W S d false x u := by
   by_cases hj : j < l1.length
   ·rw [List.getElem?_append_left hj] at hx
    obtain ⟨u, a, b⟩ := u4 j x hx
    exact ⟨u, by rw [List.getElem?_append_left (by omega)]; exact a, b⟩
   ·rw [List.getElem?_append_right (by omega)] at hx
    obtain ⟨u, a, b⟩ := v4 _ x hx
    exact ⟨u, by rw [List.getElem?_append_right (by omega), u1]; exact a, b⟩
  obtain ⟨u, hu, ht⟩ := hgen
  rcases g1.2 with ⟨h3, h4⟩ | ⟨g, cp, cur, hv', hB, hg, hn, hcm, hcs, htk⟩
  ·have := (List.getElem?_eq_some_iff.1 hu).1
   omega
  ·rw [hv] at hv'
   cases hv'
   have hc := g1.cells (g := g) (by rw [hv]; rfl) j u hu
   rw [addr_ad] at hc
   exact ⟨g, 0, u, rfl, .inr (by rw [hv]; rfl), by simpa using hc, (ht.only g2 (fun _ _ g => g)).step (fun _ g => .inl g) (fun _ _ _ g => g) (Nat.le_refl _)⟩
 ·rcases hb with g | g
  ·exact Nat.lt_of_lt_of_le (hS b g) (o.trans g2 (fun _ _ g => g)).size
  ·exact (g1.lt b g).2
theorem cc_Item {d : Nat} {l1 l2 : List Vt} {a1 a2 : Option Addr} {c1 c2 : Nat} {w : World} {S : Nat → Prop} (h1 : PsAt w S d true l1 a1) (h2 : PsAt w S d true l2 a2) (hS : ∀ b, S b → b < w.heap.size) (hn1 : l1.length ≤ 1048576) (hn2 : l2.length ≤ 1048576) : ∀ (Q : Nat) (W : World), Oz w W → W.cell? ⟨Q, 0, none⟩ = some (.slice a1 l1.length c1) → W.cell? ⟨Q, 1, none⟩ = some (.slice a2 l2.length c2) →
  Cz 85 #[.slice (some ⟨Q, 0, none⟩) 2 2] W fun e w' => ∃ ao cap, e = .returned (.slice ao (l1.length + l2.length) cap) ∧ Hid ((l1 ++ l2).length ≤ cap ∧ (∃ S', PsAt w' S' d true (l1 ++ l2) ao ∧ ∀ b, S' b → b < w'.heap.size) ∧ Oz W w') := fun Q W o q0 q1 => by
 have p1 := h1.only o (fun _ _ g => g)
 have p2 := h2.only o (fun _ _ g => g)
 obtain ⟨us, u1, u2, u3, u4⟩ := ps_row p1
 obtain ⟨vs, v1, v2, v3, v4⟩ := ps_row p2
 have e1 : a1 = none → us = [] := fun e => List.length_eq_zero_iff.1 (by
  rw [u1]
  cases l1 with
  | nil => rfl
  | cons t r => obtain ⟨g, q, u, ha, _⟩ := p1 0 t rfl; rw [e] at ha; cases ha)
 have e2 : a2 = none → vs = [] := fun e => List.length_eq_zero_iff.1 (by
  rw [v1]
  cases l2 with
  | nil => rfl
  | cons t r => obtain ⟨g, q, u, ha, _⟩ := p2 0 t rfl; rw [e] at ha; cases ha)
 have cc := concat_Item us vs a1 a2 c1 c2 Q W u2 v2 (by omega) (by omega) u3 v3 e1 e2 (by rw [u1]; exact q0) (by rw [v1]; exact q1)
 refine cc.mono fun e w' g => ?_
 obtain ⟨v, he, ⟨ao, cap, hv⟩, g1, g2⟩ := g
 have e5 : (us ++ vs).length = l1.length + l2.length := by rw [List.length_append, u1, v1]
 refine ⟨ao, cap, by rw [he, hv, e5], ?_, ⟨fun b => S b ∨ v.ownBlock = some b, fun j x hx => ?_, fun b hb => ?_⟩, g2⟩
 ·rw [hv] at g1
  rcases g1.2 with ⟨h3, h4⟩ | ⟨g, cp, cur, hv', hB, hg, hn, _⟩
  ·rw [List.length_append, ← u1, ← v1, ← List.length_append, h4]; exact Nat.zero_le _
  ·cases hv'
   rw [List.length_append, ← u1, ← v1, ← List.length_append]
   exact hn
 ·have hgen : ∃ u, (us ++ vs)[j]? = some u ∧ TiAt W S d true x u := by
   by_cases hj : j < l1.length
   ·rw [List.getElem?_append_left hj] at hx
    obtain ⟨u, a, b⟩ := u4 j x hx
    exact ⟨u, by rw [List.getElem?_append_left (by omega)]; exact a, b⟩
   ·rw [List.getElem?_append_right (by omega)] at hx
    obtain ⟨u, a, b⟩ := v4 _ x hx
    exact ⟨u, by rw [List.getElem?_append_right (by omega), u1]; exact a, b⟩
  obtain ⟨u, hu, ht⟩ := hgen
  rcases g1.2 with ⟨h3, h4⟩ | ⟨g, cp, cur, hv', hB, hg, hn, hcm, hcs, htk⟩
  ·have := (List.getElem?_eq_some_iff.1 hu).1
   omega
  ·rw [hv] at hv'
   cases hv'
   have hc := g1.cells (g := g) (by rw [hv]; rfl) j u hu
   rw [addr_ad] at hc
   exact ⟨g, 0, u, rfl, .inr (by rw [hv]; rfl), by simpa using hc, (ht.only g2 (fun _ _ g => g)).step (fun _ g => .inl g) (fun _ _ _ g => g) (Nat.le_refl _)⟩
 ·rcases hb with g | g
  ·exact Nat.lt_of_lt_of_le (hS b g) (o.trans g2 (fun _ _ g => g)).size
  ·exact (g1.lt b g).2
def JpP (T : TypeId) (d : Nat) (i : Bool) (n : Nat) (l : List Vt) (w : World) (e : Ending) (w' : World) : Prop := ∃ ao cap, e = .returned (.tuple #[.iface T (.agg #[.slice ao n cap]), .int .i64 0]) ∧ Hid (l.length ≤ cap ∧ (∃ S', PsAt w' S' d i l ao ∧ ∀ b, S' b → b < w'.heap.size) ∧ Oz w w')
theorem jn_kind {d : Nat} {x y : Vt} {u v : Value} {w : World} {S : Nat → Prop} (hx : TiAt w S d false x u) (hy : TiAt w S d false y v) (h : kd x ≠ kd y) : Cz 54 #[u, v] w fun e w' => e = .returned (.tuple #[.nilIface, .int .i64 17]) ∧ w' = w := by
 have H1 : Hid _ := kind_any hx w
 have H2 : Hid _ := kind_any hy w
 obtain ⟨a, ha⟩ : ∃ a, a = kd x := ⟨_, rfl⟩
 obtain ⟨b, hb⟩ : ∃ b, b = kd y := ⟨_, rfl⟩
 rw [← ha] at H1 h
 rw [← hb] at H2 h
 have hne : (a == b) = false := by simpa using h
 have s1 := hx.shape2
 have s2 := hy.shape2
 clear hx hy ha hb
 rcases s1 with rfl | ⟨T1, y1, rfl⟩ <;> rcases s2 with rfl | ⟨T2, y2, rfl⟩
 all_goals
  go_enter Tryz.func54, Tryz.ntmps54
  go_wp2_with fail
  refine (show Cz 28 _ _ _ from H1.out).mono ?_
  rintro e w1 ⟨rfl, hw⟩
  obtain rfl := hw.symm
  go_wp2_with fail
  refine (show Cz 28 _ _ _ from H2.out).mono ?_
  rintro e w1 ⟨rfl, hw⟩
  obtain rfl := hw.symm
  go_wp2
  go_ret2
  exact ⟨rfl, rfl⟩
theorem jn_str (s t : ByteArray) (hs : s.size ≤ 4096) (ht : t.size ≤ 4096) (w : World) : Cz 54 #[.iface 59 (.agg #[.string s]), .iface 59 (.agg #[.string t])] w fun e w' => e = .returned (.tuple #[.iface 59 (.agg #[.string (s ++ t)]), .int .i64 0]) ∧ Oz w w' := by
 have hi := uas_hit 59 41 _ Tryz.underlying59 (by intro m h; cases h)
 have H1 : Hid (∀ W, Cz 28 #[.iface 59 (.agg #[.string s])] W fun e w' => e = .returned (.int .i64 2) ∧ w' = W) := kind_Str s
 have H2 : Hid (∀ W, Cz 28 #[.iface 59 (.agg #[.string t])] W fun e w' => e = .returned (.int .i64 2) ∧ w' = W) := kind_Str t
 have H3 : Hid (∀ W, Cz 60 #[.iface 59 (.agg #[.string t])] W fun e w' => e = .returned (.string t) ∧ w' = W) := g_text t
 have O0 : Hid (Oz w w) := Only.refl _ _
 go_enter Tryz.func54, Tryz.ntmps54
 go_wp2_with fail
 refine (show Cz 28 _ _ _ from H1.out _).mono ?_
 rintro e w1 ⟨rfl, hw⟩
 obtain rfl := hw.symm
 go_wp2_with fail
 refine (show Cz 28 _ _ _ from H2.out _).mono ?_
 rintro e w1 ⟨rfl, hw⟩
 obtain rfl := hw.symm
 go_wp2
 go_region_with (go_at_call 60; refine (show Cz 60 _ _ _ from H3.out _).mono ?_; rintro ex w4 ⟨rfl, rfl⟩)
 all_goals
  go_wp2
  go_ret2
  refine ⟨rfl, ?_⟩
  repeat (first | exact O0.out | refine Only.drew ?_ | refine Only.alloc ?_ _)
theorem jn_list {d : Nat} {l1 l2 : List Vt} {a1 a2 : Option Addr} {c1 c2 : Nat} {w : World} {S : Nat → Prop} (h1 : PsAt w S d false l1 a1) (h2 : PsAt w S d false l2 a2) (hS : ∀ b, S b → b < w.heap.size) (hn1 : l1.length ≤ 10000) (hn2 : l2.length ≤ 10000) : Cz 54 #[.iface 63 (.agg #[.slice a1 l1.length c1]), .iface 63 (.agg #[.slice a2 l2.length c2])] w fun e w' => ∃ ao cap, e = .returned (.tuple #[.iface 63 (.agg #[.slice ao (l1.length + l2.length) cap]), .int .i64 0]) ∧ Hid ((l1 ++ l2).length ≤ cap ∧ (∃ S', PsAt w' S' d false (l1 ++ l2) ao ∧ ∀ b, S' b → b < w'.heap.size) ∧ Oz w w') := by
 have mStr := uas_miss 63 59 41 _ Tryz.underlying59 (by intro m h; cases h) (by decide) _ uzero_Str
 have hi := uas_hit 63 41 _ Tryz.underlying63 (by intro m h; cases h)
 have HC : Hid _ := cc_Value (c1 := c1) (c2 := c2) h1 h2 hS (by omega) (by omega)
 obtain ⟨n1, e1⟩ : ∃ n, n = l1.length := ⟨_, rfl⟩
 obtain ⟨n2, e2⟩ : ∃ n, n = l2.length := ⟨_, rfl⟩
 rw [← e1, ← e2] at HC ⊢
 have H1 : Hid (∀ W, Cz 28 #[.iface 63 (.agg #[.slice a1 n1 c1])] W fun e w' => e = .returned (.int .i64 8) ∧ w' = W) := kind_List a1 n1 c1
 have H2 : Hid (∀ W, Cz 28 #[.iface 63 (.agg #[.slice a2 n2 c2])] W fun e w' => e = .returned (.int .i64 8) ∧ w' = W) := kind_List a2 n2 c2
 have H3 : Hid (∀ W, Cz 32 #[.iface 63 (.agg #[.slice a2 n2 c2])] W fun e w' => e = .returned (.slice a2 n2 c2) ∧ w' = W) := g_list a2 n2 c2
 have O0 : Hid (Oz w w) := Only.refl _ _
 have HP : Hid (∀ ao cap w', (l1 ++ l2).length ≤ cap → (∃ S', PsAt w' S' d false (l1 ++ l2) ao ∧ ∀ b, S' b → b < w'.heap.size) → Oz w w' → JpP 63 d false (n1 + n2) (l1 ++ l2) w (.returned (.tuple #[.iface 63 (.agg #[.slice ao (n1 + n2) cap]), .int .i64 0])) w') := fun ao cap w' a b c => ⟨ao, cap, rfl, a, b, c⟩
 show Calls _ _ _ _ fun e w' => JpP 63 d false (n1 + n2) (l1 ++ l2) w e w'
 clear h1 h2 hS hn1 hn2 e1 e2
 go_enter Tryz.func54, Tryz.ntmps54
 go_wp2_with fail
 refine (show Cz 28 _ _ _ from H1.out _).mono ?_
 rintro e w1 ⟨rfl, hw⟩
 obtain rfl := hw.symm
 go_wp2_with fail
 refine (show Cz 28 _ _ _ from H2.out _).mono ?_
 rintro e w1 ⟨rfl, hw⟩
 obtain rfl := hw.symm
 go_wp2
 go_region_with (first
  | (go_at_call 17; refine (show Cz 17 _ _ _ from HC.out _ _ (by repeat' first | exact O0.out | apply Only.alloc | apply Only.drew) (by simp [go_sem]) (by simp [go_sem])).mono ?_; rintro ex w4 ⟨ao, cap, rfl, G4⟩; have O4 : Hid (Oz w w4) := Only.trans (by repeat' first | exact O0.out | apply Only.alloc | apply Only.drew) G4.out.2.2 (fun _ _ g => g))
  | (go_at_call 32; refine (show Cz 32 _ _ _ from H3.out _).mono ?_; rintro ex w4 ⟨rfl, rfl⟩))
 all_goals
  go_wp2
  go_ret2
  exact HP.out _ _ _ G4.out.1 G4.out.2.1 O4.out
theorem jn_items {d : Nat} {l1 l2 : List Vt} {a1 a2 : Option Addr} {c1 c2 : Nat} {w : World} {S : Nat → Prop} (h1 : PsAt w S d true l1 a1) (h2 : PsAt w S d true l2 a2) (hS : ∀ b, S b → b < w.heap.size) (hn1 : l1.length ≤ 10000) (hn2 : l2.length ≤ 10000) : Cz 54 #[.iface 66 (.agg #[.slice a1 l1.length c1]), .iface 66 (.agg #[.slice a2 l2.length c2])] w fun e w' => ∃ ao cap, e = .returned (.tuple #[.iface 66 (.agg #[.slice ao (l1.length + l2.length) cap]), .int .i64 0]) ∧ Hid ((l1 ++ l2).length ≤ cap ∧ (∃ S', PsAt w' S' d true (l1 ++ l2) ao ∧ ∀ b, S' b → b < w'.heap.size) ∧ Oz w w') := by
 have mStr := uas_miss 66 59 41 _ Tryz.underlying59 (by intro m h; cases h) (by decide) _ uzero_Str
 have mList := uas_miss 66 63 41 _ Tryz.underlying63 (by intro m h; cases h) (by decide) _ uzero_List
 have hi := uas_hit 66 41 _ Tryz.underlying66 (by intro m h; cases h)
 have HC : Hid _ := cc_Item (c1 := c1) (c2 := c2) h1 h2 hS (by omega) (by omega)
 obtain ⟨n1, e1⟩ : ∃ n, n = l1.length := ⟨_, rfl⟩
 obtain ⟨n2, e2⟩ : ∃ n, n = l2.length := ⟨_, rfl⟩
 rw [← e1, ← e2] at HC ⊢
 have H1 : Hid (∀ W, Cz 28 #[.iface 66 (.agg #[.slice a1 n1 c1])] W fun e w' => e = .returned (.int .i64 16) ∧ w' = W) := kind_Quot a1 n1 c1
 have H2 : Hid (∀ W, Cz 28 #[.iface 66 (.agg #[.slice a2 n2 c2])] W fun e w' => e = .returned (.int .i64 16) ∧ w' = W) := kind_Quot a2 n2 c2
 have H3 : Hid (∀ W, Cz 86 #[.iface 66 (.agg #[.slice a2 n2 c2])] W fun e w' => e = .returned (.slice a2 n2 c2) ∧ w' = W) := g_items a2 n2 c2
 have O0 : Hid (Oz w w) := Only.refl _ _
 have HP : Hid (∀ ao cap w', (l1 ++ l2).length ≤ cap → (∃ S', PsAt w' S' d true (l1 ++ l2) ao ∧ ∀ b, S' b → b < w'.heap.size) → Oz w w' → JpP 66 d true (n1 + n2) (l1 ++ l2) w (.returned (.tuple #[.iface 66 (.agg #[.slice ao (n1 + n2) cap]), .int .i64 0])) w') := fun ao cap w' a b c => ⟨ao, cap, rfl, a, b, c⟩
 show Calls _ _ _ _ fun e w' => JpP 66 d true (n1 + n2) (l1 ++ l2) w e w'
 clear h1 h2 hS hn1 hn2 e1 e2
 go_enter Tryz.func54, Tryz.ntmps54
 go_wp2_with fail
 refine (show Cz 28 _ _ _ from H1.out _).mono ?_
 rintro e w1 ⟨rfl, hw⟩
 obtain rfl := hw.symm
 go_wp2_with fail
 refine (show Cz 28 _ _ _ from H2.out _).mono ?_
 rintro e w1 ⟨rfl, hw⟩
 obtain rfl := hw.symm
 go_wp2
 go_region_with (first
  | (go_at_call 85; refine (show Cz 85 _ _ _ from HC.out _ _ (by repeat' first | exact O0.out | apply Only.alloc | apply Only.drew) (by simp [go_sem]) (by simp [go_sem])).mono ?_; rintro ex w4 ⟨ao, cap, rfl, G4⟩; have O4 : Hid (Oz w w4) := Only.trans (by repeat' first | exact O0.out | apply Only.alloc | apply Only.drew) G4.out.2.2 (fun _ _ g => g))
  | (go_at_call 86; refine (show Cz 86 _ _ _ from H3.out _).mono ?_; rintro ex w4 ⟨rfl, rfl⟩))
 all_goals
  go_wp2
  go_ret2
  exact HP.out _ _ _ G4.out.1 G4.out.2.1 O4.out
def jnR (x y : Vt) : Except Int Vt := if kd x = kd y then (if x.k = 2 then .ok (stT (x.s ++ y.s)) else .ok ⟨x.k, 0, ⟨#[]⟩, x.l ++ y.l⟩) else .error 17
theorem kd_245 {x y : Vt} (hx : x.k = 2 ∨ x.k = 4 ∨ x.k = 5) (hy : y.k = 2 ∨ y.k = 4 ∨ y.k = 5) : kd x = kd y ↔ x.k = y.k := by
 rcases kd_cases x with ⟨e, k⟩ | ⟨e, k⟩ | ⟨e, k⟩ | ⟨e, k⟩ | ⟨e, k⟩ | ⟨e, k⟩ | ⟨e, k⟩ <;> rcases kd_cases y with ⟨e', k'⟩ | ⟨e', k'⟩ | ⟨e', k'⟩ | ⟨e', k'⟩ | ⟨e', k'⟩ | ⟨e', k'⟩ | ⟨e', k'⟩ <;> rw [k, k'] <;> omega
theorem jl_sm {k : Int} {l : List Vt} (hk : k = 4 ∨ k = 5) (h : ∀ x ∈ l, ∃ e, SmT e x) (hl : l.length ≤ 1048576) : ∃ e, SmT e ⟨k, 0, ⟨#[]⟩, l⟩ := by
 obtain ⟨e, he⟩ := sm_all l h
 refine ⟨e + 1, Nat.zero_le _, hl, ?_, ⟨(by decide : (-9223372036854775808 : Int) ≤ 0), (by decide : (0 : Int) ≤ 9223372036854775807)⟩, he⟩
 show -9223372036854775808 ≤ k ∧ k ≤ 9223372036854775807
 omega
theorem sm_parts {t : Vt} (h : ∃ e, SmT e t) : ∀ x ∈ t.l, ∃ e, SmT e x := fun x hx => by
 obtain ⟨e, he⟩ := h
 cases e with
 | zero => exact he.elim
 | succ e => exact ⟨e, he.2.2.2.2 x hx⟩
theorem joined_any {D : Nat} {x y : Vt} {u v : Value} {w : World} {S : Nat → Prop} (hx : TiAt w S D false x u) (hy : TiAt w S D false y v) (hS : ∀ b, S b → b < w.heap.size) (kx : x.k = 2 ∨ x.k = 4 ∨ x.k = 5) (ky : y.k = 2 ∨ y.k = 4 ∨ y.k = 5) (sx : x.k = 2 → x.s.size ≤ 4096) (sy : y.k = 2 → y.s.size ≤ 4096) (lx : x.l.length ≤ 10000) (ly : y.l.length ≤ 10000) (mx : ∃ e, SmT e x) (my : ∃ e, SmT e y) : Cz 54 #[u, v] w fun e w' => MdP (jnR x y) D w e w' := by
 unfold jnR
 by_cases hk : kd x = kd y
 ·rw [if_pos hk]
  have hkk := (kd_245 kx ky).1 hk
  by_cases h2 : x.k = 2
  ·rw [if_pos h2]
   have e1 := ti_2 hx h2
   have e2 := ti_2 hy (by omega)
   subst e1
   subst e2
   refine (jn_str x.s y.s (sx h2) (sy (by omega)) w).mono fun e w' g => ?_
   obtain ⟨he, o⟩ := g
   cases D with
   | zero => exact hx.elim
   | succ D =>
     refine ⟨_, he, ⟨fun _ => False, st_ti w' _ D (x.s ++ y.s), fun _ g => g.elim⟩, st_sm ?_, o⟩
     have := sx h2
     have := sy (by omega)
     rw [ByteArray.size_append]
     omega
  ·rw [if_neg h2]
   cases D with
   | zero => exact hx.elim
   | succ D =>
     have k1 : x.k = 4 ∨ x.k = 5 := by omega
     have k2 : y.k = 4 ∨ y.k = 5 := by omega
     rcases hx with ⟨e, _⟩ | ⟨e, _⟩ | ⟨e, _⟩ | ⟨e, _⟩ | ⟨e, _⟩ | ⟨_, a1, c1, rfl, q1, p1⟩
     ·omega
     ·omega
     ·omega
     ·omega
     ·omega
     rcases hy with ⟨e, _⟩ | ⟨e, _⟩ | ⟨e, _⟩ | ⟨e, _⟩ | ⟨e, _⟩ | ⟨_, a2, c2, rfl, q2, p2⟩
     ·omega
     ·omega
     ·omega
     ·omega
     ·omega
     have hsm : ∀ t ∈ x.l ++ y.l, ∃ e, SmT e t := fun t ht => by
      rcases List.mem_append.1 ht with g | g
      ·exact sm_parts mx t g
      ·exact sm_parts my t g
     have hln : (x.l ++ y.l).length ≤ 1048576 := by rw [List.length_append]; omega
     rcases k1 with k1 | k1
     ·have k2' : y.k = 4 := by omega
      rw [if_pos k1, if_pos k2']
      rw [show decide (x.k = 5) = false by rw [k1]; rfl] at p1
      rw [show decide (y.k = 5) = false by rw [k2']; rfl] at p2
      refine (jn_list (c1 := c1) (c2 := c2) p1 p2 hS lx ly).mono fun e w' g => ?_
      obtain ⟨ao, cap, he, g⟩ := g
      obtain ⟨h1, ⟨S', h2, h3⟩, h4⟩ := g.out
      refine ⟨_, he, ⟨S', ?_, h3⟩, jl_sm (.inl k1) hsm hln, h4⟩
      refine .inr (.inr (.inr (.inr (.inr ⟨.inl k1, ao, cap, ?_, h1, ?_⟩))))
      ·rw [if_pos k1, List.length_append]
      ·dsimp only
       rw [show decide (x.k = 5) = false by rw [k1]; rfl]
       exact h2
     ·have k2' : y.k = 5 := by omega
      have n1 : ¬ x.k = 4 := by omega
      have n2 : ¬ y.k = 4 := by omega
      rw [if_neg n1, if_neg n2]
      rw [show decide (x.k = 5) = true by rw [k1]; rfl] at p1
      rw [show decide (y.k = 5) = true by rw [k2']; rfl] at p2
      refine (jn_items (c1 := c1) (c2 := c2) p1 p2 hS lx ly).mono fun e w' g => ?_
      obtain ⟨ao, cap, he, g⟩ := g
      obtain ⟨h1, ⟨S', h2, h3⟩, h4⟩ := g.out
      refine ⟨_, he, ⟨S', ?_, h3⟩, jl_sm (.inr k1) hsm hln, h4⟩
      refine .inr (.inr (.inr (.inr (.inr ⟨.inr k1, ao, cap, ?_, h1, ?_⟩))))
      ·rw [if_neg n1, List.length_append]
      ·dsimp only
       rw [show decide (x.k = 5) = true by rw [k1]; rfl]
       exact h2
 ·rw [if_neg hk]
  refine (jn_kind hx hy hk).mono fun e w' g => ?_
  obtain ⟨he, hw⟩ := g
  rw [hw]
  exact ⟨_, he, .inl rfl, rfl, Only.refl _ _⟩
theorem len_sum (f : Vt → Nat) (hf : ∀ x, 1 ≤ f x) : ∀ l : List Vt, l.length ≤ (l.map f).sum
 | [] => Nat.le_refl _
 | t :: l => by
   have := len_sum f hf l
   have := hf t
   simp only [List.length_cons, List.map_cons, List.sum_cons]
   omega
theorem sd_len {d : Nat} {t : Vt} (h : sdB d t = true) : t.l.length ≤ 1024 := by
 cases d with
 | zero => unfold sdB msB at h; simp [okV] at h
 | succ d =>
   unfold sdB msB at h
   simp only [Bool.and_eq_true, decide_eq_true_eq] at h
   have e : sz (d + 1) false t = 1 + (t.l.map (sz d (decide (t.k = 5)))).sum := rfl
   have := len_sum (sz d (decide (t.k = 5))) (fun x => sz_pos _ _ x) t.l
   omega
theorem sd_str {d : Nat} {t : Vt} (h : sdB d t = true) (hk : t.k = 2) : t.s.size ≤ 4096 := by
 cases d with
 | zero => unfold sdB msB at h; simp [okV] at h
 | succ d =>
   unfold sdB msB at h
   simp only [Bool.and_eq_true] at h
   have h1 := h.1.1
   simp only [okV] at h1
   rw [if_neg (by omega)] at h1
   unfold alB at h1
   rw [if_neg (by omega), if_pos hk] at h1
   simp only [Bool.and_eq_true, decide_eq_true_eq] at h1
   exact h1.1
theorem fb_26 {t : Vt} (h : fb t 26 = true) : t.k = 2 ∨ t.k = 4 ∨ t.k = 5 := by
 unfold fb at h
 rcases kd_cases t with ⟨e, k⟩ | ⟨e, k⟩ | ⟨e, k⟩ | ⟨e, k⟩ | ⟨e, k⟩ | ⟨e, k⟩ | ⟨e, k⟩ <;> rw [k] at h <;> first | omega | (exfalso; revert h; decide)
theorem md_append : MdC ⟨#[97, 112, 112, 101, 110, 100]⟩ [26, 26] (fun _ l => jnR (l.getD 0 zT) (l.getD 1 zT)) := by
 intro d l G q w S hl hS hlen hsm hsd hf hT
 obtain ⟨x, y, rfl, hk, hk2⟩ := fit2 hlen hf
 obtain ⟨g, k, u, ha, hg, hc, ht⟩ := hl 0 x rfl
 cases ha
 obtain ⟨g2, k2, u2, ha2, hg2, hc2, ht2⟩ := hl 1 y rfl
 cases ha2
 have hsd' : sdB d x = true ∧ sdB d y = true := by simpa using hsd
 have kf : ∀ t : Vt, fb t 26 = true → t.k = 2 ∨ t.k = 4 ∨ t.k = 5 := fun t h => (fb_26) h
 show Cz 33 #[_, .slice (some ⟨G, q, none⟩) 2 2] w fun e w' => MdP (jnR x y) (d + 2) w e w'
 obtain ⟨Y, hY⟩ : ∃ Y, Y = jnR x y := ⟨_, rfl⟩
 have up : ∀ {t : Vt} {v : Value} {W : World}, TiAt W S d false t v → TiAt W S (d + 2) false t v := fun h => h.step (fun _ g => g) (fun _ _ _ g => g) (by omega)
 have HE : Hid (∀ W, Oz w W → Cz 54 #[u, u2] W fun e w' => MdP Y (d + 2) W e w') := fun W o => by
  rw [hY]
  exact joined_any (up (ht.only o (fun _ _ g => g))) (up (ht2.only o (fun _ _ g => g))) (fun b hb => Nat.lt_of_lt_of_le (hS b hb) o.size) (kf x hk) (kf y hk2) (sd_str hsd'.1) (sd_str hsd'.2) (by have := sd_len hsd'.1; omega) (by have := sd_len hsd'.2; omega) (hsm x (by simp)) (hsm y (by simp))
 have HC : Hid (∀ W, Oz w W → W.cell? ⟨G, q, none⟩ = some u ∧ W.cell? ⟨G, q + 1, none⟩ = some u2) := fun W o => ⟨o.cell hc (fun g => g), o.cell hc2 (fun g => g)⟩
 obtain ⟨T1, y1, rfl⟩ := ht.iface (by have := kf x hk; omega)
 obtain ⟨T2, y2, rfl⟩ := ht2.iface (by have := kf y hk2; omega)
 rw [← hY]
 have O0 : Hid (Oz w w) := Only.refl _ _
 obtain ⟨c0, c1⟩ := HC.out w (Only.refl _ _)
 clear hl hS hlen hsm hsd hf hT hk hg hc ht hk2 hg2 hc2 ht2 hsd' hY up kf
 cases Y with
 | error n =>
   have HP : Hid (∀ w1 w' v, Oz w w1 → Oz w1 w' → (v = .nilIface ∨ ∃ T y, v = .iface T y) → (n == 0) = false → MdP (.error n) (d + 2) w (.returned (.tuple #[v, .int .i64 n])) w') := fun w1 w' v o o' a b => ⟨v, rfl, a, b, o.trans o' (fun _ _ g => g)⟩
   go_enter Tryz.func33, Tryz.ntmps33
   go_wp2
   go_region_held3 (fun W => W.cell? ⟨G, q, none⟩ = some (.iface T1 y1) ∧ W.cell? ⟨G, q + 1, none⟩ = some (.iface T2 y2))
    (first | with_reducible exact HC.out _ O0.out | with_reducible exact HC.out _ O0.out.drew | with_reducible exact HC.out _ O0.out.drew.drew | with_reducible exact HC.out _ O4.out)
    (first
     | (go_at_call 54; refine (show Cz 54 _ _ _ from HE.out _ (by first | exact O0.out | exact O0.out.drew | exact O0.out.drew.drew)).mono ?_; rintro ex w4 ⟨v, rfl, hv, hn, o4⟩; have O4 : Hid (Oz w w4) := (by first | exact O0.out.drew.trans o4 (fun _ _ g => g) | exact O0.out.trans o4 (fun _ _ g => g))))
   all_goals
    go_wp2
    go_ret2
    exact HP.out _ _ _ O0.out O4.out hv hn
 | ok t =>
   go_enter Tryz.func33, Tryz.ntmps33
   go_wp2
   go_region_held3 (fun W => W.cell? ⟨G, q, none⟩ = some (.iface T1 y1) ∧ W.cell? ⟨G, q + 1, none⟩ = some (.iface T2 y2))
    (first | with_reducible exact HC.out _ O0.out | with_reducible exact HC.out _ O0.out.drew | with_reducible exact HC.out _ O0.out.drew.drew | with_reducible exact HC.out _ O4.out)
    (first
     | (go_at_call 54; refine (show Cz 54 _ _ _ from HE.out _ (by first | exact O0.out | exact O0.out.drew | exact O0.out.drew.drew)).mono ?_; rintro ex w4 ⟨v, rfl, hv, hm, o4⟩; have O4 : Hid (Oz w w4) := (by first | exact O0.out.drew.trans o4 (fun _ _ g => g) | exact O0.out.trans o4 (fun _ _ g => g)); have HV : Hid ((∃ S, TiAt w4 S (d + 2) false t v ∧ ∀ b, S b → b < w4.heap.size) ∧ ∃ e, SmT e t) := ⟨hv, hm⟩; clear hv hm o4))
   all_goals
    go_wp2
    go_ret2
    exact ⟨_, rfl, HV.out.1, HV.out.2, O4.out⟩
theorem md_compose : MdC ⟨#[99, 111, 109, 112, 111, 115, 101]⟩ [16, 16] (fun _ l => jnR (l.getD 0 zT) (l.getD 1 zT)) := by
 intro d l G q w S hl hS hlen hsm hsd hf hT
 obtain ⟨x, y, rfl, hk, hk2⟩ := fit2 hlen hf
 obtain ⟨g, k, u, ha, hg, hc, ht⟩ := hl 0 x rfl
 cases ha
 obtain ⟨g2, k2, u2, ha2, hg2, hc2, ht2⟩ := hl 1 y rfl
 cases ha2
 have hsd' : sdB d x = true ∧ sdB d y = true := by simpa using hsd
 have kf : ∀ t : Vt, fb t 16 = true → t.k = 2 ∨ t.k = 4 ∨ t.k = 5 := fun t h => (fun h => .inr (.inr (fb_16 h))) h
 show Cz 33 #[_, .slice (some ⟨G, q, none⟩) 2 2] w fun e w' => MdP (jnR x y) (d + 2) w e w'
 obtain ⟨Y, hY⟩ : ∃ Y, Y = jnR x y := ⟨_, rfl⟩
 have up : ∀ {t : Vt} {v : Value} {W : World}, TiAt W S d false t v → TiAt W S (d + 2) false t v := fun h => h.step (fun _ g => g) (fun _ _ _ g => g) (by omega)
 have HE : Hid (∀ W, Oz w W → Cz 54 #[u, u2] W fun e w' => MdP Y (d + 2) W e w') := fun W o => by
  rw [hY]
  exact joined_any (up (ht.only o (fun _ _ g => g))) (up (ht2.only o (fun _ _ g => g))) (fun b hb => Nat.lt_of_lt_of_le (hS b hb) o.size) (kf x hk) (kf y hk2) (sd_str hsd'.1) (sd_str hsd'.2) (by have := sd_len hsd'.1; omega) (by have := sd_len hsd'.2; omega) (hsm x (by simp)) (hsm y (by simp))
 have HC : Hid (∀ W, Oz w W → W.cell? ⟨G, q, none⟩ = some u ∧ W.cell? ⟨G, q + 1, none⟩ = some u2) := fun W o => ⟨o.cell hc (fun g => g), o.cell hc2 (fun g => g)⟩
 obtain ⟨T1, y1, rfl⟩ := ht.iface (by have := kf x hk; omega)
 obtain ⟨T2, y2, rfl⟩ := ht2.iface (by have := kf y hk2; omega)
 rw [← hY]
 have O0 : Hid (Oz w w) := Only.refl _ _
 obtain ⟨c0, c1⟩ := HC.out w (Only.refl _ _)
 clear hl hS hlen hsm hsd hf hT hk hg hc ht hk2 hg2 hc2 ht2 hsd' hY up kf
 cases Y with
 | error n =>
   have HP : Hid (∀ w1 w' v, Oz w w1 → Oz w1 w' → (v = .nilIface ∨ ∃ T y, v = .iface T y) → (n == 0) = false → MdP (.error n) (d + 2) w (.returned (.tuple #[v, .int .i64 n])) w') := fun w1 w' v o o' a b => ⟨v, rfl, a, b, o.trans o' (fun _ _ g => g)⟩
   go_enter Tryz.func33, Tryz.ntmps33
   go_wp2
   go_region_held3 (fun W => W.cell? ⟨G, q, none⟩ = some (.iface T1 y1) ∧ W.cell? ⟨G, q + 1, none⟩ = some (.iface T2 y2))
    (first | with_reducible exact HC.out _ O0.out | with_reducible exact HC.out _ O0.out.drew | with_reducible exact HC.out _ O0.out.drew.drew | with_reducible exact HC.out _ O4.out)
    (first
     | (go_at_call 54; refine (show Cz 54 _ _ _ from HE.out _ (by first | exact O0.out | exact O0.out.drew | exact O0.out.drew.drew)).mono ?_; rintro ex w4 ⟨v, rfl, hv, hn, o4⟩; have O4 : Hid (Oz w w4) := (by first | exact O0.out.drew.trans o4 (fun _ _ g => g) | exact O0.out.trans o4 (fun _ _ g => g))))
   all_goals
    go_wp2
    go_ret2
    exact HP.out _ _ _ O0.out O4.out hv hn
 | ok t =>
   go_enter Tryz.func33, Tryz.ntmps33
   go_wp2
   go_region_held3 (fun W => W.cell? ⟨G, q, none⟩ = some (.iface T1 y1) ∧ W.cell? ⟨G, q + 1, none⟩ = some (.iface T2 y2))
    (first | with_reducible exact HC.out _ O0.out | with_reducible exact HC.out _ O0.out.drew | with_reducible exact HC.out _ O0.out.drew.drew | with_reducible exact HC.out _ O4.out)
    (first
     | (go_at_call 54; refine (show Cz 54 _ _ _ from HE.out _ (by first | exact O0.out | exact O0.out.drew | exact O0.out.drew.drew)).mono ?_; rintro ex w4 ⟨v, rfl, hv, hm, o4⟩; have O4 : Hid (Oz w w4) := (by first | exact O0.out.drew.trans o4 (fun _ _ g => g) | exact O0.out.trans o4 (fun _ _ g => g)); have HV : Hid ((∃ S, TiAt w4 S (d + 2) false t v ∧ ∀ b, S b → b < w4.heap.size) ∧ ∃ e, SmT e t) := ⟨hv, hm⟩; clear hv hm o4))
   all_goals
    go_wp2
    go_ret2
    exact ⟨_, rfl, HV.out.1, HV.out.2, O4.out⟩
theorem rc_le (s : ByteArray) : ∀ (f pos : Nat), runeCountFrom s f pos ≤ f
 | 0, _ => Nat.le_refl _
 | f + 1, pos => by
   unfold runeCountFrom
   split
   ·have := rc_le s f (pos + (Utf8.decode s pos).2)
    omega
   ·omega
theorem len_str (s : ByteArray) (hs : s.size ≤ 4096) (w : World) : Cz 53 #[.iface 59 (.agg #[.string s])] w fun e w' => e = .returned (.int .i64 (runeCount s : Int)) ∧ Oz w w' := by
 have hi := uas_hit 59 41 _ Tryz.underlying59 (by intro m h; cases h)
 have HR : Hid (∀ W, Cz 84 #[.string s] W fun e w' => e = .returned (.int .i64 (runeCount s : Int)) ∧ Oz W w') := fun W => by
  refine (Any.utf8_RuneCountInString Tryz.laysRunes s W (by omega)).mono fun e w' g => ?_
  obtain ⟨he, pos, hw⟩ := g
  rw [hw]
  exact ⟨he, (Only.refl _ W).iter s pos⟩
 obtain ⟨n, hn⟩ : ∃ n : Int, n = (runeCount s : Int) := ⟨_, rfl⟩
 rw [← hn] at HR ⊢
 have O0 : Hid (Oz w w) := Only.refl _ _
 clear hn hs
 go_enter Tryz.func53, Tryz.ntmps53
 go_wp2_with fail
 refine (show Cz 84 _ _ _ from HR.out _).mono ?_
 rintro e w1 ⟨rfl, o1⟩
 have O1 : Hid (Oz w w1) := (O0.out.alloc _).trans o1 (fun _ _ g => g)
 clear HR o1
 go_wp2
 go_ret
 exact ⟨rfl, O1.out⟩
theorem len_list (ao : Option Addr) (L c : Nat) (w : World) : Cz 53 #[.iface 63 (.agg #[.slice ao L c])] w fun e w' => e = .returned (.int .i64 (L : Int)) ∧ Oz w w' := by
 have mStr := uas_miss 63 59 41 _ Tryz.underlying59 (by intro m h; cases h) (by decide) _ uzero_Str
 have hi := uas_hit 63 41 _ Tryz.underlying63 (by intro m h; cases h)
 have O0 : Hid (Oz w w) := Only.refl _ _
 go_enter Tryz.func53, Tryz.ntmps53
 go_wp2
 go_ret
 exact ⟨rfl, O0.out.alloc _⟩
theorem len_quot (ao : Option Addr) (L c : Nat) (w : World) : Cz 53 #[.iface 66 (.agg #[.slice ao L c])] w fun e w' => e = .returned (.int .i64 (L : Int)) ∧ Oz w w' := by
 have mStr := uas_miss 66 59 41 _ Tryz.underlying59 (by intro m h; cases h) (by decide) _ uzero_Str
 have mList := uas_miss 66 63 41 _ Tryz.underlying63 (by intro m h; cases h) (by decide) _ uzero_List
 have hi := uas_hit 66 41 _ Tryz.underlying66 (by intro m h; cases h)
 have O0 : Hid (Oz w w) := Only.refl _ _
 go_enter Tryz.func53, Tryz.ntmps53
 go_wp2
 go_ret
 exact ⟨rfl, O0.out.alloc _⟩
def lnT (t : Vt) : Nat := if t.k = 2 then runeCount t.s else t.l.length
theorem length_any {d : Nat} {t : Vt} {v : Value} {w0 : World} {S : Nat → Prop} (h : TiAt w0 S d false t v) (hk : t.k = 2 ∨ t.k = 4 ∨ t.k = 5) (hs : t.k = 2 → t.s.size ≤ 4096) (w : World) : Cz 53 #[v] w fun e w' => e = .returned (.int .i64 (lnT t : Int)) ∧ Oz w w' := by
 unfold lnT
 by_cases h2 : t.k = 2
 ·rw [if_pos h2, ti_2 h h2]
  exact len_str t.s (hs h2) w
 ·rw [if_neg h2]
  cases d with
  | zero => exact h.elim
  | succ d =>
    rcases h with ⟨e, _⟩ | ⟨e, _⟩ | ⟨e, _⟩ | ⟨e, _⟩ | ⟨e, _⟩ | ⟨e, a1, c1, rfl, q1, p1⟩
    ·omega
    ·omega
    ·omega
    ·omega
    ·omega
    rcases e with e | e
    ·rw [if_pos e]
     exact len_list a1 _ c1 w
    ·rw [if_neg (by omega)]
     exact len_quot a1 _ c1 w
theorem md_length : MdC ⟨#[108, 101, 110, 103, 116, 104]⟩ [26] (fun _ l => .ok (inT (lnT (l.getD 0 zT)))) := by
 intro d l G q w S hl hS hlen hsm hsd hf hT
 obtain ⟨x, rfl, hk⟩ := fit1 hlen hf
 obtain ⟨g, k, u, ha, hg, hc, ht⟩ := hl 0 x rfl
 cases ha
 have hsx : sdB d x = true := by simpa using hsd
 have HL : Hid _ := length_any ht (fb_26 hk) (sd_str hsx) w
 show Cz 33 #[_, .slice (some ⟨G, q, none⟩) 1 1] w fun e w' => MdP (.ok (inT (lnT x))) (d + 2) w e w'
 have hc0 : w.cell? ⟨G, q, none⟩ = some u := hc
 obtain ⟨T1, y1, rfl⟩ := ht.iface (by have := fb_26 hk; omega)
 have hb : lnT x ≤ 4096 := by
  unfold lnT
  split
  ·rename_i h2
   have := rc_le x.s x.s.size 0
   have := sd_str hsx h2
   unfold runeCount
   omega
  ·have := sd_len hsx
   omega
 obtain ⟨n, hn⟩ : ∃ n : Int, n = (lnT x : Int) := ⟨_, rfl⟩
 rw [← hn] at HL ⊢
 have HP : Hid (∀ w', Oz w w' → MdP (.ok (inT n)) (d + 2) w (.returned (.tuple #[.iface 35 (.agg #[.int .i64 n]), .int .i64 0])) w') := fun w' o => ⟨_, rfl, ⟨fun _ => False, in_ti w' _ (d + 1) n, fun _ g => g.elim⟩, in_sm (by omega), o⟩
 clear hl hS hlen hsm hsd hf hT hk hg hc ht hsx hb hn
 go_enter Tryz.func33, Tryz.ntmps33
 go_wp2_with fail
 refine (show Cz 53 _ _ _ from HL.out).mono ?_
 rintro e w1 ⟨rfl, o1⟩
 have O1 : Hid (Oz w w1) := o1
 clear HL o1
 go_wp2
 go_ret2
 exact HP.out _ O1.out
theorem sl_mid (ao : Option Addr) (L c a b : Nat) (hab : a ≤ b) (hb : b ≤ L) (hc : L ≤ c) (hn : ao = none → L = 0) (hp : ∀ ad, ao = some ad → 0 < L → ∃ g q, ad = ⟨g, q, none⟩) : ∃ ao' c', (∀ w, (Instr.slice 25 (.slice ao L c) (some (.int .i64 (a : Int))) (some (.int .i64 (b : Int))) none).run Tryz.prog w = .ok (.slice ao' (b - a) c') w) ∧ b - a ≤ c' ∧ (∀ g q, ao = some ⟨g, q, none⟩ → a < b → ao' = some ⟨g, q + a, none⟩) := by
 have k0 : (0 : Int) ≤ (a : Int) := by omega
 have k1 : (a : Int) ≤ (b : Int) := by omega
 have k2 : (b : Int) ≤ (c : Int) := by omega
 have k3 : (0 : Int) ≤ (b : Int) := by omega
 have e1 : ((b : Int) - (a : Int)).toNat = b - a := by omega
 have e2 : ((c : Int) - (a : Int)).toNat = c - a := by omega
 cases ao with
 | none =>
   have h0 := hn rfl
   subst h0
   obtain rfl : b = 0 := by omega
   obtain rfl : a = 0 := by omega
   exact ⟨none, c, fun w => by go_simp, by omega, fun g q h => by cases h⟩
 | some ad =>
   by_cases hL0 : L = 0
   ·obtain rfl : b = 0 := by omega
    obtain rfl : a = 0 := by omega
    refine ⟨some ad, c, fun w => ?_, by omega, fun g q _ h => by omega⟩
    by_cases hz0 : c = 0
    ·subst hz0
     go_simp
    ·have k6 : ¬ (c : Int) = 0 := by omega
     go_simp
   obtain ⟨g, q, rfl⟩ := hp ad rfl (by omega)
   by_cases hz : c - a = 0
   ·have hca : c = a := by omega
    have hba : b = a := by omega
    subst hba
    refine ⟨some ⟨g, q, none⟩, 0, fun w => ?_, by omega, fun g q _ h => by omega⟩
    have k4 : ¬ ((c : Int) < (b : Int)) := by omega
    subst hca
    go_simp
   ·refine ⟨some ⟨g, q + a, none⟩, c - a, fun w => ?_, by omega, fun g' q' h _ => by cases h; rfl⟩
    have e4 : ¬ c = a := by omega
    go_simp
def CuP (d : Nat) (l : List Vt) (S : Nat → Prop) (n m : Int) (w : World) (e : Ending) (w' : World) : Prop :=
 w' = w ∧ if 0 ≤ n ∧ n ≤ m ∧ m ≤ (l.length : Int) then ∃ ao' c', e = .returned (.tuple #[.slice ao' (m.toNat - n.toNat) c', .int .i64 0]) ∧ Hid (m.toNat - n.toNat ≤ c' ∧ PsAt w S d false ((l.drop n.toNat).take (m.toNat - n.toNat)) ao') else e = .returned (.tuple #[.slice none 0 0, .int .i64 4])
theorem cut_v {d : Nat} {l : List Vt} {ao : Option Addr} {c : Nat} {w : World} {S : Nat → Prop} (hl : PsAt w S d false l ao) (hc : l.length ≤ c) (hnil : ao = none → l = []) (hb : l.length ≤ 10000) (n m : Int) : Cz 88 #[.slice ao l.length c, .int .i64 n, .int .i64 m] w fun e w' => CuP d l S n m w e w' := by
 obtain ⟨L, hL⟩ : ∃ L, L = l.length := ⟨_, rfl⟩
 by_cases h : 0 ≤ n ∧ n ≤ m ∧ m ≤ (l.length : Int)
 ·obtain ⟨h0, h1, h2⟩ := h
  obtain ⟨a, rfl⟩ : ∃ a : Nat, n = (a : Int) := ⟨n.toNat, by omega⟩
  obtain ⟨b, rfl⟩ : ∃ b : Nat, m = (b : Int) := ⟨m.toNat, by omega⟩
  obtain ⟨ao', c', hr, hcc, ha⟩ := sl_mid ao L c a b (by omega) (by omega) (by omega) (fun e => by rw [hL, hnil e]; rfl) (fun ad e h => by
   obtain ⟨g, q, u, p1, _⟩ := hl 0 l[0] (List.getElem?_eq_getElem (by omega))
   rw [e] at p1
   cases p1
   exact ⟨g, q, rfl⟩)
  have HP : Hid (CuP d l S (a : Int) (b : Int) w (.returned (.tuple #[.slice ao' (b - a) c', .int .i64 0])) w) := by
   refine ⟨rfl, ?_⟩
   rw [if_pos ⟨h0, h1, h2⟩]
   simp only [Int.toNat_natCast]
   refine ⟨ao', c', rfl, hcc, fun j x hx => ?_⟩
   have hj := (List.getElem?_eq_some_iff.1 hx).1
   simp only [List.length_take, List.length_drop] at hj
   rw [List.getElem?_take, if_pos (by omega), List.getElem?_drop] at hx
   obtain ⟨g, q, u, p1, p2, p3, p4⟩ := hl _ x hx
   refine ⟨g, q + a, u, ha g q p1 (by omega), p2, ?_, p4⟩
   rw [Nat.add_assoc]
   exact p3
  have i1 : ¬ (a : Int) < 0 := by omega
  have i2 : ¬ (b : Int) < (a : Int) := by omega
  have i3 : ¬ (b : Int) > (L : Int) := by omega
  have i4 : ¬ (L : Int) < (b : Int) := by omega
  rw [← hL]
  clear hl hc hnil hb h0 h1 h2 hcc ha hL
  go_enter Tryz.func88, Tryz.ntmps88
  go_wp2
  go_ret2
  exact HP.out
 ·have HP : Hid (CuP d l S n m w (.returned (.tuple #[.slice none 0 0, .int .i64 4])) w) := by
   refine ⟨rfl, ?_⟩
   rw [if_neg h]
  have hh : n < 0 ∨ (¬ n < 0 ∧ m < n) ∨ (¬ n < 0 ∧ ¬ m < n ∧ m > (L : Int)) := by omega
  rw [← hL]
  clear hl hc hnil hb hL h
  rcases hh with i1 | ⟨i1, i2⟩ | ⟨i1, i2, i3⟩
  ·go_enter Tryz.func88, Tryz.ntmps88
   go_wp2
   go_ret2
   exact HP.out
  ·go_enter Tryz.func88, Tryz.ntmps88
   go_wp2
   go_ret2
   exact HP.out
  ·go_enter Tryz.func88, Tryz.ntmps88
   go_wp2
   go_ret2
   exact HP.out
end Go.Proofs.YtenjollhlgjjdaaGreatDoor
