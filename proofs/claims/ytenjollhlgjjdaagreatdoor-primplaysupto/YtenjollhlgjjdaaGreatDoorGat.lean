import Derived.Test.YtenjollhlgjjdaaGreatDoorGas
import Derived.Deep.RegionHeld3
import Derived.Test.YtenjollhlgjjdaaGreatDoorGaa
import Derived.Test.YtenjollhlgjjdaaGreatDoorRows
import Derived.Test.YtenjollhlgjjdaaGreatDoorGak
import Derived.Test.YtenjollhlgjjdaaGreatDoorGal
import Derived.Test.YtenjollhlgjjdaaGreatDoorGan
import Derived.Test.YtenjollhlgjjdaaGreatDoorGao
import Derived.Test.YtenjollhlgjjdaaGreatDoorGar
import Derived.Test.YtenjollhlgjjdaaGreatDoorGaq
/-          -/
set_option linter.unusedSimpArgs false
set_option linter.unusedVariables false
set_option maxRecDepth 100000
set_option maxHeartbeats 40000000
namespace Go.Proofs.YtenjollhlgjjdaaGreatDoor
open Go.RowKit Go.Lib
theorem clone0_r (ao : Option Addr) (c : Nat) (w : World) : Cz 111 #[.slice ao 0 c] w fun e w' => ∃ a' c', e = .returned (.slice a' 0 c') ∧ Oz w w' := by
 obtain ⟨i, z, hi, hz, hs, hb⟩ := inf_r
 have O0 : Hid (Oz w w) := Only.refl _ _
 cases ao with
 | none =>
   have hnil : ∀ W, (binOp .eql 144 (.slice none 0 c) (.slice none 0 0)).run Tryz.prog W = .ok (.bool true) W := fun W => by
    have := Lib.run_eql_slice_nil (P := Tryz.prog) W 144 21 none 0 c 0 0 Tryz.underlying144
    simpa using this
   clear hi hz hs hb
   go_enter Tryz.func111, Tryz.ntmps111
   go_wp2
   go_ret
   exact ⟨_, _, rfl, O0.out⟩
 | some ad =>
   have hnil : ∀ W, (binOp .eql 144 (.slice (some ad) 0 c) (.slice none 0 0)).run Tryz.prog W = .ok (.bool false) W := fun W => by
    have := Lib.run_eql_slice_nil (P := Tryz.prog) W 144 21 (some ad) 0 c 0 0 Tryz.underlying144
    simpa using this
   have HA : Hid (∀ ty, (Builtin.append_ #[144, 144] ty #[.slice (some ⟨w.heap.size, 0, none⟩) 0 0, .slice (some ad) 0 c]).run Tryz.prog (w.alloc (.cells #[] 21)) = .ok (.slice (some ⟨w.heap.size, 0, none⟩) 0 0) (w.alloc (.cells #[] 21))) := fun ty => by
    have hf := run_firstCells_some (P := Tryz.prog) (w.alloc (.cells #[] 21)) i.size 0 ad 0 c [] (by simp) (fun j v h => by simp at h)
    simp [Builtin.append_, run_underlying Tryz.underlying144, sizeOf, typeInfo, hi, Builtin.lenOf, hf, storeCells, loadCellsFrom, loadCells]
   clear hi hz hs hb
   go_enter Tryz.func111, Tryz.ntmps111
   go_wp2_with (at_builtin; refine vwpList_append_run rfl _ _ 144 rfl _ _ _ rfl rfl HA.out ?_)
   go_wp2
   go_ret
   exact ⟨_, _, rfl, O0.out.alloc _⟩
theorem reverse0_r (ao : Option Addr) (c : Nat) (w : World) : Cz 112 #[.slice ao 0 c] w fun e w' => e = .returned (.tuple #[]) ∧ w' = w := by
 go_enter Tryz.func112, Tryz.ntmps112
 go_wp2
 go_loopw [2, 3] (fun r x wr => r = .int .i64 0 ∧ x = .int .i64 (-1) ∧ wr = w) (fun _ _ _ => 0)
 case atStart => exact ⟨rfl, rfl, rfl⟩
 case round =>
  obtain ⟨rfl, rfl, rfl⟩ := hrel
  go_wp2
  go_end0
  exact ⟨rfl, rfl⟩
theorem backwards0_r (ao : Option Addr) (c : Nat) (w : World) : Cz 89 #[.slice ao 0 c] w fun e w' => ∃ a' c', e = .returned (.slice a' 0 c') ∧ Oz w w' := by
 have HC : Hid _ := clone0_r ao c w
 have HR : Hid (∀ a' c' W, Cz 112 #[.slice a' 0 c'] W fun e w' => e = .returned (.tuple #[]) ∧ w' = W) := reverse0_r
 go_enter Tryz.func89, Tryz.ntmps89
 go_wp2_with fail
 refine (show Cz 111 _ _ _ from HC.out).mono ?_
 rintro e w1 ⟨a1, c1, rfl, o1⟩
 have O1 : Hid (Oz w w1) := o1
 clear HC o1
 go_wp2_with fail
 refine (show Cz 112 _ _ _ from HR.out _ _ _).mono ?_
 rintro e w2 ⟨rfl, hw⟩
 obtain rfl := hw.symm
 clear HR
 go_wp2
 go_ret
 exact ⟨_, _, rfl, O1.out⟩
theorem backwards_r {n c : Nat} {us : List Value} {ad : Addr} {w : World} (hl : us.length = n) (h0 : 0 < n) (hn : n ≤ 10000) (h1 : ∀ u ∈ us, ∃ b : Int, u = .int .i32 b) (hu : ∀ j u, us[j]? = some u → w.cell? (ad.add j) = some u) : Cz 89 #[.slice (some ad) n c] w fun e w' => ∃ g c', e = .returned (.slice (some ⟨g, 0, none⟩) n c') ∧ Hid (n ≤ c' ∧ RoP w w' g n (fun j => us[n - 1 - j]?)) := by
 have HC : Hid _ := clone_r (c := c) hl h0 hn hu
 have HR : Hid (∀ g c' W, RoP w W g n (fun j => us[j]?) → Cz 112 #[.slice (some ⟨g, 0, none⟩) n c'] W fun e w' => e = .returned (.tuple #[]) ∧ Hid (RoP w w' g n (fun j => us[n - 1 - j]?))) := fun g c' W h => reverse_r hl h0 hn h1 h
 clear hl h0 hn h1 hu
 go_enter Tryz.func89, Tryz.ntmps89
 go_wp2_with fail
 refine (show Cz 111 _ _ _ from HC.out).mono ?_
 rintro e w1 ⟨g, c1, rfl, G1⟩
 clear HC
 go_wp2_with fail
 refine (show Cz 112 _ _ _ from HR.out _ _ _ G1.out.2).mono ?_
 rintro e w2 ⟨rfl, G2⟩
 have HP : Hid (n ≤ c1 ∧ RoP w w2 g n (fun j => us[n - 1 - j]?)) := ⟨G1.out.1, G2.out⟩
 clear HR G1 G2
 go_wp2
 go_ret
 exact ⟨_, _, rfl, HP⟩
theorem clone0_v (ao : Option Addr) (c : Nat) (w : World) : Cz 113 #[.slice ao 0 c] w fun e w' => ∃ a' c', e = .returned (.slice a' 0 c') ∧ Oz w w' := by
 obtain ⟨i, z, hi, hz, hs, hb⟩ := inf_v
 have O0 : Hid (Oz w w) := Only.refl _ _
 cases ao with
 | none =>
   have hnil : ∀ W, (binOp .eql 25 (.slice none 0 c) (.slice none 0 0)).run Tryz.prog W = .ok (.bool true) W := fun W => by
    have := Lib.run_eql_slice_nil (P := Tryz.prog) W 25 41 none 0 c 0 0 Tryz.underlying25
    simpa using this
   clear hi hz hs hb
   go_enter Tryz.func113, Tryz.ntmps113
   go_wp2
   go_ret
   exact ⟨_, _, rfl, O0.out⟩
 | some ad =>
   have hnil : ∀ W, (binOp .eql 25 (.slice (some ad) 0 c) (.slice none 0 0)).run Tryz.prog W = .ok (.bool false) W := fun W => by
    have := Lib.run_eql_slice_nil (P := Tryz.prog) W 25 41 (some ad) 0 c 0 0 Tryz.underlying25
    simpa using this
   have HA : Hid (∀ ty, (Builtin.append_ #[25, 25] ty #[.slice (some ⟨w.heap.size, 0, none⟩) 0 0, .slice (some ad) 0 c]).run Tryz.prog (w.alloc (.cells #[] 41)) = .ok (.slice (some ⟨w.heap.size, 0, none⟩) 0 0) (w.alloc (.cells #[] 41))) := fun ty => by
    have hf := run_firstCells_some (P := Tryz.prog) (w.alloc (.cells #[] 41)) i.size 0 ad 0 c [] (by simp) (fun j v h => by simp at h)
    simp [Builtin.append_, run_underlying Tryz.underlying25, sizeOf, typeInfo, hi, Builtin.lenOf, hf, storeCells, loadCellsFrom, loadCells]
   clear hi hz hs hb
   go_enter Tryz.func113, Tryz.ntmps113
   go_wp2_with (at_builtin; refine vwpList_append_run rfl _ _ 25 rfl _ _ _ rfl rfl HA.out ?_)
   go_wp2
   go_ret
   exact ⟨_, _, rfl, O0.out.alloc _⟩
theorem reverse0_v (ao : Option Addr) (c : Nat) (w : World) : Cz 114 #[.slice ao 0 c] w fun e w' => e = .returned (.tuple #[]) ∧ w' = w := by
 go_enter Tryz.func114, Tryz.ntmps114
 go_wp2
 go_loopw [2, 3] (fun r x wr => r = .int .i64 0 ∧ x = .int .i64 (-1) ∧ wr = w) (fun _ _ _ => 0)
 case atStart => exact ⟨rfl, rfl, rfl⟩
 case round =>
  obtain ⟨rfl, rfl, rfl⟩ := hrel
  go_wp2
  go_end0
  exact ⟨rfl, rfl⟩
theorem backwards0_v (ao : Option Addr) (c : Nat) (w : World) : Cz 90 #[.slice ao 0 c] w fun e w' => ∃ a' c', e = .returned (.slice a' 0 c') ∧ Oz w w' := by
 have HC : Hid _ := clone0_v ao c w
 have HR : Hid (∀ a' c' W, Cz 114 #[.slice a' 0 c'] W fun e w' => e = .returned (.tuple #[]) ∧ w' = W) := reverse0_v
 go_enter Tryz.func90, Tryz.ntmps90
 go_wp2_with fail
 refine (show Cz 113 _ _ _ from HC.out).mono ?_
 rintro e w1 ⟨a1, c1, rfl, o1⟩
 have O1 : Hid (Oz w w1) := o1
 clear HC o1
 go_wp2_with fail
 refine (show Cz 114 _ _ _ from HR.out _ _ _).mono ?_
 rintro e w2 ⟨rfl, hw⟩
 obtain rfl := hw.symm
 clear HR
 go_wp2
 go_ret
 exact ⟨_, _, rfl, O1.out⟩
theorem backwards_v {n c : Nat} {us : List Value} {ad : Addr} {w : World} (hl : us.length = n) (h0 : 0 < n) (hn : n ≤ 10000) (h1 : ∀ u ∈ us, u = .nilIface ∨ ∃ T z, u = .iface T z) (hu : ∀ j u, us[j]? = some u → w.cell? (ad.add j) = some u) : Cz 90 #[.slice (some ad) n c] w fun e w' => ∃ g c', e = .returned (.slice (some ⟨g, 0, none⟩) n c') ∧ Hid (n ≤ c' ∧ RoP w w' g n (fun j => us[n - 1 - j]?)) := by
 have HC : Hid _ := clone_v (c := c) hl h0 hn hu
 have HR : Hid (∀ g c' W, RoP w W g n (fun j => us[j]?) → Cz 114 #[.slice (some ⟨g, 0, none⟩) n c'] W fun e w' => e = .returned (.tuple #[]) ∧ Hid (RoP w w' g n (fun j => us[n - 1 - j]?))) := fun g c' W h => reverse_v hl h0 hn h1 h
 clear hl h0 hn h1 hu
 go_enter Tryz.func90, Tryz.ntmps90
 go_wp2_with fail
 refine (show Cz 113 _ _ _ from HC.out).mono ?_
 rintro e w1 ⟨g, c1, rfl, G1⟩
 clear HC
 go_wp2_with fail
 refine (show Cz 114 _ _ _ from HR.out _ _ _ G1.out.2).mono ?_
 rintro e w2 ⟨rfl, G2⟩
 have HP : Hid (n ≤ c1 ∧ RoP w w2 g n (fun j => us[n - 1 - j]?)) := ⟨G1.out.1, G2.out⟩
 clear HR G1 G2
 go_wp2
 go_ret
 exact ⟨_, _, rfl, HP⟩
theorem uexists_list {α : Type} : ∀ (len : Nat) (p : Nat → α → Prop), (∀ i, i < len → ∃ x, p i x) → ∃ l : List α, l.length = len ∧ ∀ i (h : i < l.length), p i l[i]
 | 0, _, _ => ⟨[], rfl, fun i h => by simp at h⟩
 | n + 1, p, hp => by
   obtain ⟨l, hl, hq⟩ := uexists_list n p (fun i hi => hp i (by omega))
   obtain ⟨x, hx⟩ := hp n (by omega)
   refine ⟨l ++ [x], by simp [hl], fun i hi => ?_⟩
   by_cases e : i < l.length
   ·rw [List.getElem_append_left e]; exact hq i e
   ·have : i = l.length := by simp at hi; omega
    subst this
    rw [List.getElem_append_right (by omega)]
    simpa [hl] using hx
def rvT (t : Vt) : Vt := if t.k = 2 then stT (tx (rns t.s).reverse) else ⟨4, 0, ⟨#[]⟩, t.l.reverse⟩
theorem turned_str {q : List Nat} (hv : VL q) (hq : (tx q).size ≤ 4096) (w : World) : Cz 57 #[.iface 59 (.agg #[.string (tx q)])] w fun e w' => e = .returned (.iface 59 (.agg #[.string (tx q.reverse)])) ∧ Oz w w' := by
 obtain ⟨C, A, hc1, hc2, hc3⟩ := cv_runes hv hq
 have hi := uas_hit 59 41 _ Tryz.underlying59 (by intro m h; cases h)
 have hlen : q.length ≤ 4096 := by have := len_wl q; rw [tx_size] at hq; omega
 have HB : Hid (∀ (W : World) (g : Nat), g = W.heap.size → Cz 89 #[.slice (some ⟨g, 0, none⟩) q.length (C W)] (W.alloc (.cells (A W) 21)).drew fun e w' => ∃ a c', e = .returned (.slice a q.length c') ∧ (convert 144 9 (.slice a q.length c')).run Tryz.prog w' = .ok (.string (tx q.reverse)) w' ∧ Hid (Oz (W.alloc (.cells (A W) 21)).drew w')) := fun W g hg => by
  subst hg
  rw [show (W.alloc (.cells (A W) 21)).drew = W.drew.alloc (.cells (A W) 21) from rfl]
  by_cases h0 : q.length = 0
  ·rw [h0]
   have hq0 : q = [] := List.length_eq_zero_iff.1 h0
   refine (backwards0_r _ (C W) _).mono fun e w' g => ?_
   obtain ⟨a', c', he, o⟩ := g
   refine ⟨a', c', he, ?_, o⟩
   cases a' with
   | none =>
     rw [run_convert_runes_nil (P := Tryz.prog) w' 144 9 21 0 c' Tryz.underlying144 Tryz.underlying21 Tryz.underlying9, hq0]
     rfl
   | some a =>
     have := run_convert_runes (P := Tryz.prog) w' 144 9 21 a 0 c' [] (by simp) Tryz.underlying144 Tryz.underlying21 Tryz.underlying9 (fun j hj => by simp at hj)
     rw [this, hq0]
     rfl
  ·have hus : ∀ j, ((q.map fun (r : Nat) => Value.int .i32 (r : Int)))[j]? = (q[j]?).map fun (r : Nat) => Value.int .i32 (r : Int) := fun j => by rw [List.getElem?_map]
   refine (backwards_r (us := q.map fun (r : Nat) => Value.int .i32 (r : Int)) (c := C W) (by simp) (by omega) (by omega) (fun u hu => by obtain ⟨r, _, rfl⟩ := List.mem_map.1 hu; exact ⟨_, rfl⟩) (fun j u hu => ?_)).mono fun e w' g => ?_
   ·rw [hus] at hu
    obtain ⟨r, hr, rfl⟩ := Option.map_eq_some_iff.1 hu
    rw [Addr.add_mid, Nat.zero_add, hc3 W j (List.getElem?_eq_some_iff.1 hr).1, List.getD_eq_getElem?_getD, hr]
    rfl
   ·obtain ⟨g, c', he, g2⟩ := g
    obtain ⟨g3, g4, g5, g6⟩ := g2.out
    refine ⟨_, c', he, ?_, g6⟩
    have := cv_mid (W := w') (g := g) (a := 0) (c := c') (L := 0) (q := q.reverse) (vl_rev hv) (fun j hj => by
     rw [List.length_reverse] at hj
     rw [(g5 j hj).1]
     dsimp only
     rw [hus, List.getD_eq_getElem?_getD, List.getElem?_reverse hj, List.getElem?_eq_getElem (show q.length - 1 - j < q.length by omega)]
     rfl) 0 q.length (by rw [List.length_reverse]; omega) (fun _ => rfl)
    rw [List.drop_zero, List.take_of_length_le (by rw [List.length_reverse]; exact Nat.le_refl _)] at this
    exact this
 obtain ⟨s, hs⟩ : ∃ s, s = tx q := ⟨_, rfl⟩
 obtain ⟨L, hL⟩ : ∃ L, L = q.length := ⟨_, rfl⟩
 obtain ⟨r, hr⟩ : ∃ r, r = tx q.reverse := ⟨_, rfl⟩
 rw [← hs] at hc1 ⊢
 rw [← hL] at hc1 HB
 rw [← hr] at HB ⊢
 have O0 : Hid (Oz w w) := Only.refl _ _
 clear hv hq hc2 hc3 hs hL hr hlen
 go_enter Tryz.func57, Tryz.ntmps57
 go_wp2_with fail
 refine (show Cz 89 _ _ _ from HB.out (w.alloc (.cells #[.string s] 59)) _ (by simp)).mono ?_
 rintro e w1 ⟨a, c', rfl, hcv, o1⟩
 have O1 : Hid (Oz w w1) := ((O0.out.alloc _).alloc _).drew.trans o1.out (fun _ _ g => g)
 clear HB o1
 go_wp2
 go_ret
 exact ⟨rfl, O1.out⟩
def TlP (d : Nat) (l : List Vt) (S : Nat → Prop) (w : World) (e : Ending) (w' : World) : Prop :=
 ∃ ao' c', e = .returned (.iface 63 (.agg #[.slice ao' l.length c'])) ∧ l.length ≤ c' ∧ (∃ S', PsAt w' S' d false l.reverse ao' ∧ ∀ b, S' b → b < w'.heap.size) ∧ Oz w w'
theorem turned_list {d : Nat} {l : List Vt} {ao : Option Addr} {c : Nat} {w : World} {S : Nat → Prop} (hl : PsAt w S d false l ao) (hS : ∀ b, S b → b < w.heap.size) (hc : l.length ≤ c) (hb : l.length ≤ 10000) : Cz 57 #[.iface 63 (.agg #[.slice ao l.length c])] w fun e w' => TlP d l S w e w' := by
 have mStr := uas_miss 63 59 41 _ Tryz.underlying59 (by intro m h; cases h) (by decide) _ uzero_Str
 have hi := uas_hit 63 41 _ Tryz.underlying63 (by intro m h; cases h)
 have O0 : Hid (Oz w w) := Only.refl _ _
 obtain ⟨L, hL⟩ : ∃ L, L = l.length := ⟨_, rfl⟩
 have HB : Hid (∀ (W : World), Oz w W → Cz 90 #[.slice ao L c] W fun e w' => ∃ a c', e = .returned (.slice a L c') ∧ Hid (TlP d l S w (.returned (.iface 63 (.agg #[.slice a L c']))) w')) := fun W o => by
  rw [hL]
  by_cases h0 : l.length = 0
  ·rw [h0]
   have hl0 : l = [] := List.length_eq_zero_iff.1 h0
   refine (backwards0_v _ c W).mono fun e w' g => ?_
   obtain ⟨a', c', he, o2⟩ := g
   refine ⟨a', c', he, a', c', by rw [h0], by omega, ⟨fun _ => False, fun j x hx => by rw [hl0] at hx; simp at hx, fun _ g => g.elim⟩, o.trans o2 (fun _ _ g => g)⟩
  ·obtain ⟨g0, q0, u0, ha, _⟩ := hl 0 l[0] (List.getElem?_eq_getElem (by omega))
   subst ha
   have hex : ∀ j, j < l.length → ∃ u, w.cell? ⟨g0, q0 + j, none⟩ = some u ∧ TiAt w S d false (l.getD j zT) u := fun j hj => by
    obtain ⟨g, q, u, p1, p2, p3, p4⟩ := hl j l[j] (List.getElem?_eq_getElem hj)
    cases p1
    refine ⟨u, p3, ?_⟩
    rw [List.getD_eq_getElem?_getD, List.getElem?_eq_getElem hj]
    exact p4
   obtain ⟨us, hul, hus⟩ := uexists_list l.length (fun j u => w.cell? ⟨g0, q0 + j, none⟩ = some u ∧ TiAt w S d false (l.getD j zT) u) hex
   refine (backwards_v (us := us) (c := c) hul (by omega) hb (fun u hu => ?_) (fun j u hu => ?_)).mono fun e w' g => ?_
   ·obtain ⟨j, hj, rfl⟩ := List.getElem_of_mem hu
    exact (hus j hj).2.shape2
   ·obtain ⟨hj, rfl⟩ := List.getElem?_eq_some_iff.1 hu
    rw [Addr.add_mid]
    exact o.cell (hus j hj).1 (fun g => g)
   ·obtain ⟨g, c', he, g2⟩ := g
    obtain ⟨g3, g4, g5, g6⟩ := g2.out
    refine ⟨_, c', he, _, c', rfl, g3, ⟨fun b => S b ∨ b = g, fun j x hx => ?_, fun b hb => ?_⟩, o.trans g6 (fun _ _ g => g)⟩
    ·have hj : j < l.length := by have := (List.getElem?_eq_some_iff.1 hx).1; simpa using this
     rw [List.getElem?_reverse hj] at hx
     have hj2 : l.length - 1 - j < us.length := by omega
     have hcell := (g5 j hj).1
     dsimp only at hcell
     rw [List.getElem?_eq_getElem hj2] at hcell
     refine ⟨g, 0, _, rfl, .inr rfl, by rw [Nat.zero_add]; exact hcell, ?_⟩
     have ht := (hus (l.length - 1 - j) hj2).2
     rw [List.getD_eq_getElem?_getD, hx] at ht
     exact ((ht.only o (fun _ _ g => g)).only g6 (fun _ _ g => g)).step (fun _ g => .inl g) (fun _ _ _ g => g) (Nat.le_refl _)
    ·rcases hb with hb | rfl
     ·exact Nat.lt_of_lt_of_le (hS b hb) (Nat.le_trans o.size g6.size)
     ·have := (g5 0 (by omega)).1
      dsimp only at this
      rw [List.getElem?_eq_getElem (show l.length - 1 - 0 < us.length by omega)] at this
      exact World.block_lt_of_cell? w' _ this
 rw [← hL]
 clear hl hS hc hb hL
 go_enter Tryz.func57, Tryz.ntmps57
 go_wp2_with fail
 refine (show Cz 90 _ _ _ from HB.out _ (O0.out.alloc _)).mono ?_
 rintro e w1 ⟨a, c', rfl, HP⟩
 clear HB
 go_wp2
 go_ret
 exact HP.out
theorem turned_any {D : Nat} {x : Vt} {u : Value} {w : World} {S : Nat → Prop} (hx : TiAt w S D false x u) (hS : ∀ b, S b → b < w.heap.size) (kx : x.k = 2 ∨ x.k = 4) (sq : x.k = 2 → ∃ q, VL q ∧ x.s = tx q) (sx : x.k = 2 → x.s.size ≤ 4096) (lx : x.l.length ≤ 10000) (mx : ∃ e, SmT e x) : Cz 57 #[u] w fun e w' => ∃ T y, e = .returned (.iface T y) ∧ (∃ S, TiAt w' S D false (rvT x) (.iface T y) ∧ ∀ b, S b → b < w'.heap.size) ∧ (∃ e, SmT e (rvT x)) ∧ Oz w w' := by
 unfold rvT
 cases D with
 | zero => exact hx.elim
 | succ D =>
 by_cases h2 : x.k = 2
 ·rw [if_pos h2]
  obtain ⟨q, hv, hs⟩ := sq h2
  have e1 := ti_2 hx h2
  subst e1
  have hz := sx h2
  rw [hs] at hz ⊢
  rw [rns_tx hv]
  refine (turned_str hv hz w).mono fun e w' g => ?_
  obtain ⟨he, o⟩ := g
  refine ⟨_, _, he, ⟨fun _ => False, st_ti w' _ D _, fun _ g => g.elim⟩, st_sm ?_, o⟩
  have := tx_rev q
  omega
 ·rw [if_neg h2]
  have k4 : x.k = 4 := by omega
  rcases hx with ⟨e, _⟩ | ⟨e, _⟩ | ⟨e, _⟩ | ⟨e, _⟩ | ⟨e, _⟩ | ⟨_, a1, c1, rfl, q1, p1⟩
  ·omega
  ·omega
  ·omega
  ·omega
  ·omega
  rw [if_pos k4]
  rw [show decide (x.k = 5) = false by rw [k4]; rfl] at p1
  refine (turned_list (c := c1) p1 hS q1 lx).mono fun e w' g => ?_
  obtain ⟨ao', c', he, g1, ⟨S', g2, g3⟩, o⟩ := g
  refine ⟨_, _, he, ⟨S', ?_, g3⟩, jl_sm (.inl rfl) (fun t ht => sm_parts mx t (List.mem_reverse.1 ht)) (by rw [List.length_reverse]; omega), o⟩
  refine .inr (.inr (.inr (.inr (.inr ⟨.inl rfl, ao', c', ?_, ?_, ?_⟩))))
  ·dsimp only
   rw [List.length_reverse]
   rfl
  ·dsimp only
   rw [List.length_reverse]
   exact g1
  ·exact g2
theorem md_reverse : MdC ⟨#[114, 101, 118, 101, 114, 115, 101]⟩ [10] (fun _ l => .ok (rvT (l.getD 0 zT))) := by
 intro d l G q w S hl hS hlen hsm hsd hf hT
 obtain ⟨x, rfl, hk⟩ := fit1 hlen hf
 obtain ⟨g, k, u, ha, hg, hc, ht⟩ := hl 0 x rfl
 cases ha
 have hsx : sdB d x = true := by simpa using hsd
 have HL : Hid _ := turned_any (ht.step (fun _ g => g) (fun _ _ _ g => g) (show d ≤ d + 2 by omega)) hS (fb_10 hk) (sd_q hsx) (sd_str hsx) (by have := sd_len hsx; omega) (hsm x (by simp))
 show Cz 33 #[_, .slice (some ⟨G, q, none⟩) 1 1] w fun e w' => MdP (.ok (rvT x)) (d + 2) w e w'
 have hc0 : w.cell? ⟨G, q, none⟩ = some u := hc
 obtain ⟨T1, y1, rfl⟩ := ht.iface (by have := fb_10 hk; omega)
 obtain ⟨R, hR⟩ : ∃ R, R = rvT x := ⟨_, rfl⟩
 rw [← hR] at HL ⊢
 clear hl hS hlen hsm hsd hf hT hk hg hc ht hsx hR
 go_enter Tryz.func33, Tryz.ntmps33
 go_wp2_with fail
 refine (show Cz 57 _ _ _ from HL.out).mono ?_
 rintro e w1 ⟨T, y, rfl, h1, h2, o1⟩
 have HP : Hid (MdP (.ok R) (d + 2) w (.returned (.tuple #[.iface T y, .int .i64 0])) w1) := ⟨_, rfl, h1, h2, o1⟩
 clear HL o1 h1 h2
 go_wp2
 go_ret2
 exact HP.out
theorem md_slice : MdC ⟨#[115, 108, 105, 99, 101]⟩ [1, 1, 10] (fun _ l => pcR (l.getD 0 zT).n (l.getD 1 zT).n (l.getD 2 zT)) := by
 intro d l G q w S hl hS hlen hsm hsd hf hT
 obtain ⟨x, y, z, rfl, hk, hk2, hk3⟩ := fit3 hlen hf
 obtain ⟨g, k, u, ha, hg, hc, ht⟩ := hl 0 x rfl
 cases ha
 obtain ⟨g2, k2, u2, ha2, hg2, hc2, ht2⟩ := hl 1 y rfl
 cases ha2
 obtain ⟨g3, k3, u3, ha3, hg3, hc3, ht3⟩ := hl 2 z rfl
 cases ha3
 have hu := ti_1 ht (fb_1 hk)
 subst hu
 have hu2 := ti_1 ht2 (fb_1 hk2)
 subst hu2
 have hsd' : sdB d x = true ∧ sdB d y = true ∧ sdB d z = true := by simpa [and_assoc] using hsd
 show Cz 33 #[_, .slice (some ⟨G, q, none⟩) 3 3] w fun e w' => MdP (pcR x.n y.n z) (d + 2) w e w'
 obtain ⟨n, hn⟩ : ∃ n, n = x.n := ⟨_, rfl⟩
 obtain ⟨m, hm⟩ : ∃ m, m = y.n := ⟨_, rfl⟩
 rw [← hn] at hc
 rw [← hm] at hc2
 rw [← hn, ← hm]
 obtain ⟨Y, hY⟩ : ∃ Y, Y = pcR n m z := ⟨_, rfl⟩
 have HE : Hid (∀ W, Oz w W → Cz 56 #[.int .i64 n, .int .i64 m, u3] W fun e w' => MdP Y (d + 2) W e w') := fun W o => by
  rw [hY]
  exact piece_any ((ht3.only o (fun _ _ g => g)).step (fun _ g => g) (fun _ _ _ g => g) (by omega)) (fun b hb => Nat.lt_of_lt_of_le (hS b hb) o.size) (fb_10 hk3) (sd_q hsd'.2.2) (sd_str hsd'.2.2) (by have := sd_len hsd'.2.2; omega) (hsm z (by simp)) n m
 have HC : Hid (∀ W, Oz w W → W.cell? ⟨G, q, none⟩ = some (.iface 35 (.agg #[.int .i64 n])) ∧ W.cell? ⟨G, q + 1, none⟩ = some (.iface 35 (.agg #[.int .i64 m])) ∧ W.cell? ⟨G, q + 2, none⟩ = some u3) := fun W o => ⟨o.cell hc (fun g => g), o.cell hc2 (fun g => g), o.cell hc3 (fun g => g)⟩
 obtain ⟨T2, y2, rfl⟩ := ht3.iface (by have := fb_10 hk3; omega)
 have HN : Hid (∀ W, Cz 51 #[.iface 35 (.agg #[.int .i64 n])] W fun e w' => e = .returned (.int .i64 n) ∧ w' = W) := g_number n
 have HN2 : Hid (∀ W, Cz 51 #[.iface 35 (.agg #[.int .i64 m])] W fun e w' => e = .returned (.int .i64 m) ∧ w' = W) := g_number m
 rw [← hY]
 have O0 : Hid (Oz w w) := Only.refl _ _
 obtain ⟨c0, c1, c2⟩ := HC.out w (Only.refl _ _)
 clear hl hS hlen hsm hsd hf hT hk hg hc ht hk2 hg2 hc2 ht2 hk3 hg3 hc3 ht3 hsd' hY hn hm
 cases Y with
 | error v =>
   have HP : Hid (∀ w1 w' a, Oz w w1 → Oz w1 w' → (a = .nilIface ∨ ∃ T y, a = .iface T y) → (v == 0) = false → MdP (.error v) (d + 2) w (.returned (.tuple #[a, .int .i64 v])) w') := fun w1 w' a o o' h b => ⟨a, rfl, h, b, o.trans o' (fun _ _ g => g)⟩
   go_enter Tryz.func33, Tryz.ntmps33
   go_wp2
   go_region_held3 (fun W => W.cell? ⟨G, q, none⟩ = some (.iface 35 (.agg #[.int .i64 n])) ∧ W.cell? ⟨G, q + 1, none⟩ = some (.iface 35 (.agg #[.int .i64 m])) ∧ W.cell? ⟨G, q + 2, none⟩ = some (.iface T2 y2))
    (first | with_reducible exact HC.out _ O0.out | with_reducible exact HC.out _ O0.out.drew | with_reducible exact HC.out _ O0.out.drew.drew | with_reducible exact HC.out _ O4.out)
    (first
     | (go_at_call 56; refine (show Cz 56 _ _ _ from HE.out _ (by first | exact O0.out | exact O0.out.drew | exact O0.out.drew.drew)).mono ?_; rintro ex w4 ⟨v, rfl, hv, hn, o4⟩; have O4 : Hid (Oz w w4) := (by first | exact O0.out.drew.trans o4 (fun _ _ g => g) | exact O0.out.trans o4 (fun _ _ g => g)))
     | (go_at_call 51; refine (show Cz 51 _ _ _ from HN.out _).mono ?_; rintro ex w4 ⟨rfl, rfl⟩)
     | (go_at_call 51; refine (show Cz 51 _ _ _ from HN2.out _).mono ?_; rintro ex w4 ⟨rfl, rfl⟩))
   all_goals
    go_wp2
    go_ret2
    exact HP.out _ _ _ O0.out O4.out hv hn
 | ok t =>
   go_enter Tryz.func33, Tryz.ntmps33
   go_wp2
   go_region_held3 (fun W => W.cell? ⟨G, q, none⟩ = some (.iface 35 (.agg #[.int .i64 n])) ∧ W.cell? ⟨G, q + 1, none⟩ = some (.iface 35 (.agg #[.int .i64 m])) ∧ W.cell? ⟨G, q + 2, none⟩ = some (.iface T2 y2))
    (first | with_reducible exact HC.out _ O0.out | with_reducible exact HC.out _ O0.out.drew | with_reducible exact HC.out _ O0.out.drew.drew | with_reducible exact HC.out _ O4.out)
    (first
     | (go_at_call 56; refine (show Cz 56 _ _ _ from HE.out _ (by first | exact O0.out | exact O0.out.drew | exact O0.out.drew.drew)).mono ?_; rintro ex w4 ⟨v, rfl, hv, hm, o4⟩; have O4 : Hid (Oz w w4) := (by first | exact O0.out.drew.trans o4 (fun _ _ g => g) | exact O0.out.trans o4 (fun _ _ g => g)); have HV : Hid ((∃ S, TiAt w4 S (d + 2) false t v ∧ ∀ b, S b → b < w4.heap.size) ∧ ∃ e, SmT e t) := ⟨hv, hm⟩; clear hv hm o4)
     | (go_at_call 51; refine (show Cz 51 _ _ _ from HN.out _).mono ?_; rintro ex w4 ⟨rfl, rfl⟩)
     | (go_at_call 51; refine (show Cz 51 _ _ _ from HN2.out _).mono ?_; rintro ex w4 ⟨rfl, rfl⟩))
   all_goals
    go_wp2
    go_ret2
    exact ⟨_, rfl, HV.out.1, HV.out.2, O4.out⟩
end Go.Proofs.YtenjollhlgjjdaaGreatDoor
namespace Go.Proofs.YtenjollhlgjjdaaGreatDoor
open Go.RowKit
theorem Only.at {w w1 : World} {B : Nat} {o : Obj} (h : Oz w w1) (g : w.heap[B]? = some o) : w1.heap[B]? = some o :=
 (h.block B (Array.getElem?_eq_some_iff.1 g).1 (fun g => g)).trans g
theorem alloc_old {W : World} {o p : Obj} {n : Nat} (h : W.heap[n]? = some o) : (W.alloc p).heap[n]? = some o :=
 ((Only.refl (fun _ => False) W).alloc p).at h
def pmL : List (List UInt8 × Int × Int) := [([100, 114, 111, 112], 1, 0), ([46], 1, 0), ([110, 101, 103], 1, 1), ([97, 98, 115], 1, 1), ([110, 111, 116], 1, 1), ([105, 110, 116, 63], 1, 1), ([115, 116, 114, 63], 1, 1), ([98, 111, 111, 108, 63], 1, 1), ([108, 105, 115, 116, 63], 1, 1), ([113, 117, 111, 116, 63], 1, 1), ([98, 111, 120, 63], 1, 1), ([108, 101, 110, 103, 116, 104], 1, 1), ([119, 114, 97, 112], 1, 1), ([114, 101, 118, 101, 114, 115, 101], 1, 1), ([62, 115, 116, 114], 1, 1), ([62, 105, 110, 116], 1, 1), ([98, 111, 120], 1, 1), ([103, 101, 116], 1, 1), ([100, 117, 112], 1, 2), ([117, 110, 112, 97, 105, 114], 1, 2), ([112, 117, 116], 2, 0), ([110, 105, 112], 2, 1), ([43], 2, 1), ([45], 2, 1), ([42], 2, 1), ([47], 2, 1), ([109, 111, 100], 2, 1), ([109, 105, 110], 2, 1), ([109, 97, 120], 2, 1), ([60], 2, 1), ([62], 2, 1), ([61], 2, 1), ([97, 110, 100], 2, 1), ([111, 114], 2, 1), ([97, 112, 112, 101, 110, 100], 2, 1), ([110, 116, 104], 2, 1), ([112, 97, 105, 114], 2, 1), ([99, 117, 114, 114, 121], 2, 1), ([99, 111, 109, 112, 111, 115, 101], 2, 1), ([115, 119, 97, 112], 2, 2), ([111, 118, 101, 114], 2, 3), ([116, 117, 99, 107], 2, 3), ([115, 108, 105, 99, 101], 3, 1), ([114, 111, 116], 3, 3)]
def pmF (l : List UInt8) : List (List UInt8 × Int × Int) → Int × Int × Bool
 | [] => (0, 0, false)
 | x :: r => if l = x.1 then (x.2.1, x.2.2, true) else pmF l r
def pmR (s : ByteArray) : Int × Int × Bool := pmF s.toList pmL
theorem pmF_no (l : List UInt8) : ∀ q : List (List UInt8 × Int × Int), (∀ x ∈ q, l ≠ x.1) → pmF l q = (0, 0, false)
 | [], _ => rfl
 | x :: r, h => by
   unfold pmF
   rw [if_neg (h x (by simp)), pmF_no l r (fun y hy => h y (by simp [hy]))]
theorem to_lit {s : ByteArray} {l : List UInt8} (h : s.toList = l) : s = ⟨l.toArray⟩ := by
 subst h
 obtain ⟨⟨d⟩⟩ := s
 simp [ByteArray.toList_eq]
def RmC (s : ByteArray) : Prop := ∀ w : World, Cz 36 #[.string s] w fun e w' => e = .returned (.tuple #[.int .i64 (pmR s).1, .int .i64 (pmR s).2.1, .bool (pmR s).2.2]) ∧ Oz w w'
theorem pmR_all : pmL.all (fun x => pmR ⟨x.1.toArray⟩ == (x.2.1, x.2.2, true)) = true := by kernel_rfl
theorem pmR_mem (x : List UInt8 × Int × Int) (hx : x ∈ pmL) : pmR ⟨x.1.toArray⟩ = (x.2.1, x.2.2, true) := by simpa using List.all_eq_true.mp pmR_all x hx
theorem pm_or (s : ByteArray) : (∃ x ∈ pmL, s = ⟨x.1.toArray⟩) ∨ ((∀ x ∈ pmL, (s.toList == x.1) = false) ∧ pmR s = (0, 0, false)) := by
 by_cases h : ∃ x ∈ pmL, s.toList = x.1
 ·obtain ⟨x, hx, e⟩ := h
  exact .inl ⟨x, hx, to_lit e⟩
 ·exact .inr ⟨fun x hx => beq_false_of_ne fun e => h ⟨x, hx, e⟩, pmF_no _ _ fun x hx e => h ⟨x, hx, e⟩⟩
def RmX (s : ByteArray) (i o : Int) (b : Bool) : Prop := ∀ w : World, Cz 36 #[.string s] w fun e w' => e = .returned (.tuple #[.int .i64 i, .int .i64 o, .bool b]) ∧ Oz w w'
def MvX (s : ByteArray) (i o : Int) (b : Bool) : Prop := ∀ w1, Cz 64 #[.string s] w1 fun e w' => ∃ v, e = .returned (.tuple #[.int .i64 i, v, .bool b]) ∧ Hid ((∃ ao c n, v = .slice ao n c ∧ (n : Int) = o) ∧ Oz w1 w')
def mvB (l : List UInt8) : Bool := ([[100, 117, 112], [100, 114, 111, 112], [115, 119, 97, 112], [111, 118, 101, 114], [114, 111, 116], [110, 105, 112], [116, 117, 99, 107]] : List (List UInt8)).contains l
theorem rm_mv {l : List UInt8} {i o : Int} (_ : mvB l = true) (HM : MvX ⟨l.toArray⟩ i o true) : RmX ⟨l.toArray⟩ i o true := by
 intro w
 have HM : Hid (MvX ⟨l.toArray⟩ i o true) := HM
 go_enter Tryz.func36, Tryz.ntmps36
 go_wp2_with fail
 refine (show Cz 64 _ _ _ from HM.out _).mono ?_
 rintro e w1 ⟨v, rfl, h1⟩
 obtain ⟨⟨ao, c, n, rfl, rfl⟩, o1⟩ := h1.out
 have O1 : Hid (Oz w w1) := o1
 clear h1 o1 HM
 go_wp2_with fail
 go_ret3
 exact ⟨rfl, O1.out⟩
theorem rm_mn {s : ByteArray} {i o : Int} {b : Bool} (h : MvX s 0 0 false) (k : Hid (MvX s 0 0 false) → RmX s i o b) : RmX s i o b := k h
theorem rm_x : ∀ x ∈ pmL, RmX ⟨x.1.toArray⟩ x.2.1 x.2.2 true := by
 intro x hx
 simp only [pmL, List.mem_cons, List.not_mem_nil, or_false] at hx
 rcases hx with rfl|rfl|rfl|rfl|rfl|rfl|rfl|rfl|rfl|rfl|rfl|rfl|rfl|rfl|rfl|rfl|rfl|rfl|rfl|rfl|rfl|rfl|rfl|rfl|rfl|rfl|rfl|rfl|rfl|rfl|rfl|rfl|rfl|rfl|rfl|rfl|rfl|rfl|rfl|rfl|rfl|rfl|rfl|rfl
 all_goals
  dsimp only
  first | refine rm_mv (by decide) ?_ | refine rm_mn ?_ fun HM => ?_
  ·intro w1
   go_enter Tryz.func64, Tryz.ntmps64
   go_wp2_with fail
   go_ret3
   first | exact ⟨_, rfl, ⟨_, _, _, rfl, rfl⟩, Only.refl _ w1⟩ | exact ⟨_, rfl, ⟨_, _, _, rfl, rfl⟩, (Only.refl _ w1).alloc _⟩
  all_goals
   intro w
   go_enter Tryz.func36, Tryz.ntmps36
   go_wp2_with fail
   refine (show Cz 64 _ _ _ from HM.out _).mono ?_
   rintro e w1 ⟨v, rfl, h1⟩
   obtain ⟨⟨ao, c, n, rfl, _⟩, o1⟩ := h1.out
   have O1 : Hid (Oz w w1) := o1
   clear h1 o1 HM
   go_wp2_with fail
   go_ret3
   exact ⟨rfl, O1.out⟩
theorem rm_y {s : ByteArray} (hn : ∀ x ∈ pmL, (s.toList == x.1) = false) : RmX s 0 0 false := by
 simp only [pmL, List.forall_mem_cons] at hn
 obtain ⟨n0, n1, n2, n3, n4, n5, n6, n7, n8, n9, n10, n11, n12, n13, n14, n15, n16, n17, n18, n19, n20, n21, n22, n23, n24, n25, n26, n27, n28, n29, n30, n31, n32, n33, n34, n35, n36, n37, n38, n39, n40, n41, n42, n43, _⟩ := hn
 refine rm_mn ?_ fun HM => ?_
 ·intro w1
  go_enter Tryz.func64, Tryz.ntmps64
  go_wp2_with fail
  go_ret3
  exact ⟨_, rfl, ⟨_, _, _, rfl, rfl⟩, Only.refl _ w1⟩
 intro w
 go_enter Tryz.func36, Tryz.ntmps36
 go_wp2_with fail
 refine (show Cz 64 _ _ _ from HM.out _).mono ?_
 rintro e w1 ⟨v, rfl, h1⟩
 obtain ⟨⟨ao, c, n, rfl, _⟩, o1⟩ := h1.out
 have O1 : Hid (Oz w w1) := o1
 clear h1 o1 HM
 go_wp2_with fail
 go_ret3
 exact ⟨rfl, O1.out⟩
theorem rprim_any (s : ByteArray) : RmC s := by
 rcases pm_or s with ⟨x, hx, rfl⟩ | ⟨hn, e⟩
 ·intro w
  rw [pmR_mem x hx]
  exact rm_x x hx w
 ·intro w
  rw [e]
  exact rm_y hn w
end Go.Proofs.YtenjollhlgjjdaaGreatDoor
namespace Go.Proofs.YtenjollhlgjjdaaGreatDoor
open Go.RowKit Go.Lib
structure PrO (p : Pr) (k : Nat) : Prop where
 c : PrC p
 ok : ∀ d l ls, p.cy d l = .ok ls → ls.length = k
 er : ∀ d l n, p.cy d l = .error n → n ≠ 16
 ef : pmR p.name = ((p.ks.length : Int), (k : Int), true)
 lo : k ≤ 3
theorem one_ok {r : Except Int Vt} {ls : List Vt} (h : oneR r = .ok ls) : ls.length = 1 := by
 cases r with
 | error n => cases h
 | ok t => cases h; rfl
theorem one_er {r : Except Int Vt} {n : Int} (h : oneR r = .error n) : r = .error n := by
 cases r with
 | error n => cases h; rfl
 | ok t => cases h
theorem nm_er {rk : Int → Int → Int × Int} {a b n : Int} (h : nmR rk a b = .error n) (h16 : (rk a b).2 ≠ 16) : n ≠ 16 := by
 unfold nmR at h
 split at h
 ·cases h
 ·cases h; exact h16
theorem ar16 (op a b : Int) : arE op a b ≠ 16 := by
 unfold arE
 (repeat' split) <;> omega
theorem jn_er {x y : Vt} {n : Int} (h : jnR x y = .error n) : n ≠ 16 := by
 unfold jnR at h
 split at h
 ·split at h <;> cases h
 ·cases h; decide
theorem pc_er {a b : Int} {x : Vt} {n : Int} (h : pcR a b x = .error n) : n ≠ 16 := by
 unfold pcR at h
 split at h <;> split at h <;> cases h <;> decide
theorem nt_er {a : Int} {x : Vt} {n : Int} (h : ntR a x = .error n) : n ≠ 16 := by
 unfold ntR at h
 split at h
 ·rename_i n' e
  cases h
  exact pc_er e
 ·split at h <;> cases h
theorem nu_er {d : Nat} {l : List Vt} {n : Int} (h : nuR d l = .error n) : n ≠ 16 := by
 unfold nuR at h
 split at h
 ·cases h
 ·cases h
  rcases num_cases (l.getD 0 zT).s with e | e | e <;> rw [e] <;> decide
theorem un_ok {l ls : List Vt} (h : unR l = .ok ls) : ls.length = 2 := by
 unfold unR at h
 split at h
 ·split at h
  ·cases h; assumption
  ·cases h
 ·cases h
theorem un_er {l : List Vt} {n : Int} (h : unR l = .error n) : n ≠ 16 := by
 unfold unR at h
 split at h
 ·split at h
  ·cases h
  ·cases h; decide
 ·cases h; decide
def q0 : Pr := ⟨⟨#[100, 117, 112]⟩, [63], fun _ l => .ok (lsR [0, 0] l)⟩
theorem o0 : PrO q0 2 := ⟨⟨wt_0, cy_mv mv_0 (by decide) (by decide) (by decide), by decide, by decide⟩, fun d l ls h => (by cases h; rfl), fun d l n h => (by cases h), by kernel_rfl, by decide⟩
def q1 : Pr := ⟨⟨#[100, 114, 111, 112]⟩, [63], fun _ l => .ok (lsR [] l)⟩
theorem o1 : PrO q1 0 := ⟨⟨wt_1, cy_mv mv_1 (by decide) (by decide) (by decide), by decide, by decide⟩, fun d l ls h => (by cases h; rfl), fun d l n h => (by cases h), by kernel_rfl, by decide⟩
def q2 : Pr := ⟨⟨#[115, 119, 97, 112]⟩, [63, 63], fun _ l => .ok (lsR [1, 0] l)⟩
theorem o2 : PrO q2 2 := ⟨⟨wt_2, cy_mv mv_2 (by decide) (by decide) (by decide), by decide, by decide⟩, fun d l ls h => (by cases h; rfl), fun d l n h => (by cases h), by kernel_rfl, by decide⟩
def q3 : Pr := ⟨⟨#[111, 118, 101, 114]⟩, [63, 63], fun _ l => .ok (lsR [0, 1, 0] l)⟩
theorem o3 : PrO q3 3 := ⟨⟨wt_3, cy_mv mv_3 (by decide) (by decide) (by decide), by decide, by decide⟩, fun d l ls h => (by cases h; rfl), fun d l n h => (by cases h), by kernel_rfl, by decide⟩
def q4 : Pr := ⟨⟨#[114, 111, 116]⟩, [63, 63, 63], fun _ l => .ok (lsR [1, 2, 0] l)⟩
theorem o4 : PrO q4 3 := ⟨⟨wt_4, cy_mv mv_4 (by decide) (by decide) (by decide), by decide, by decide⟩, fun d l ls h => (by cases h; rfl), fun d l n h => (by cases h), by kernel_rfl, by decide⟩
def q5 : Pr := ⟨⟨#[110, 105, 112]⟩, [63, 63], fun _ l => .ok (lsR [1] l)⟩
theorem o5 : PrO q5 1 := ⟨⟨wt_5, cy_mv mv_5 (by decide) (by decide) (by decide), by decide, by decide⟩, fun d l ls h => (by cases h; rfl), fun d l n h => (by cases h), by kernel_rfl, by decide⟩
def q6 : Pr := ⟨⟨#[116, 117, 99, 107]⟩, [63, 63], fun _ l => .ok (lsR [1, 0, 1] l)⟩
theorem o6 : PrO q6 3 := ⟨⟨wt_6, cy_mv mv_6 (by decide) (by decide) (by decide), by decide, by decide⟩, fun d l ls h => (by cases h; rfl), fun d l n h => (by cases h), by kernel_rfl, by decide⟩
def q7 : Pr := ⟨⟨#[43]⟩, [1, 1], fun _ l => oneR (nmR (arK 43) (l.getD 0 zT).n (l.getD 1 zT).n)⟩
theorem o7 : PrO q7 1 := ⟨⟨wt_7, cy_md mn_7 (by kernel_rfl) md_add, by decide, by decide⟩, fun d l ls h => one_ok (r := (nmR (arK 43) (l.getD 0 zT).n (l.getD 1 zT).n)) h, fun d l n h => nm_er (one_er (r := (nmR (arK 43) (l.getD 0 zT).n (l.getD 1 zT).n)) h) (ar16 _ _ _), by kernel_rfl, by decide⟩
def q8 : Pr := ⟨⟨#[45]⟩, [1, 1], fun _ l => oneR (nmR (arK 45) (l.getD 0 zT).n (l.getD 1 zT).n)⟩
theorem o8 : PrO q8 1 := ⟨⟨wt_8, cy_md mn_8 (by kernel_rfl) md_sub, by decide, by decide⟩, fun d l ls h => one_ok (r := (nmR (arK 45) (l.getD 0 zT).n (l.getD 1 zT).n)) h, fun d l n h => nm_er (one_er (r := (nmR (arK 45) (l.getD 0 zT).n (l.getD 1 zT).n)) h) (ar16 _ _ _), by kernel_rfl, by decide⟩
def q9 : Pr := ⟨⟨#[42]⟩, [1, 1], fun _ l => oneR (nmR (arK 42) (l.getD 0 zT).n (l.getD 1 zT).n)⟩
theorem o9 : PrO q9 1 := ⟨⟨wt_9, cy_md mn_9 (by kernel_rfl) md_mul, by decide, by decide⟩, fun d l ls h => one_ok (r := (nmR (arK 42) (l.getD 0 zT).n (l.getD 1 zT).n)) h, fun d l n h => nm_er (one_er (r := (nmR (arK 42) (l.getD 0 zT).n (l.getD 1 zT).n)) h) (ar16 _ _ _), by kernel_rfl, by decide⟩
def q10 : Pr := ⟨⟨#[47]⟩, [1, 1], fun _ l => oneR (nmR (arK 47) (l.getD 0 zT).n (l.getD 1 zT).n)⟩
theorem o10 : PrO q10 1 := ⟨⟨wt_10, cy_md mn_10 (by kernel_rfl) md_div, by decide, by decide⟩, fun d l ls h => one_ok (r := (nmR (arK 47) (l.getD 0 zT).n (l.getD 1 zT).n)) h, fun d l n h => nm_er (one_er (r := (nmR (arK 47) (l.getD 0 zT).n (l.getD 1 zT).n)) h) (ar16 _ _ _), by kernel_rfl, by decide⟩
def q11 : Pr := ⟨⟨#[109, 111, 100]⟩, [1, 1], fun _ l => oneR (nmR (arK 37) (l.getD 0 zT).n (l.getD 1 zT).n)⟩
theorem o11 : PrO q11 1 := ⟨⟨wt_11, cy_md mn_11 (by kernel_rfl) md_mod, by decide, by decide⟩, fun d l ls h => one_ok (r := (nmR (arK 37) (l.getD 0 zT).n (l.getD 1 zT).n)) h, fun d l n h => nm_er (one_er (r := (nmR (arK 37) (l.getD 0 zT).n (l.getD 1 zT).n)) h) (ar16 _ _ _), by kernel_rfl, by decide⟩
def q12 : Pr := ⟨⟨#[110, 101, 103]⟩, [1], fun _ l => oneR (nmR ngK (l.getD 0 zT).n (l.getD 0 zT).n)⟩
theorem o12 : PrO q12 1 := ⟨⟨wt_12, cy_md mn_12 (by kernel_rfl) md_neg, by decide, by decide⟩, fun d l ls h => one_ok (r := (nmR ngK (l.getD 0 zT).n (l.getD 0 zT).n)) h, fun d l n h => nm_er (one_er (r := (nmR ngK (l.getD 0 zT).n (l.getD 0 zT).n)) h) (ar16 _ _ _), by kernel_rfl, by decide⟩
def q13 : Pr := ⟨⟨#[97, 98, 115]⟩, [1], fun _ l => oneR (nmR abK (l.getD 0 zT).n (l.getD 0 zT).n)⟩
theorem o13 : PrO q13 1 := ⟨⟨wt_13, cy_md mn_13 (by kernel_rfl) md_abs, by decide, by decide⟩, fun d l ls h => one_ok (r := (nmR abK (l.getD 0 zT).n (l.getD 0 zT).n)) h, fun d l n h => nm_er (one_er (r := (nmR abK (l.getD 0 zT).n (l.getD 0 zT).n)) h) (by unfold abK; split; exact ar16 _ _ _; (show (0 : Int) ≠ 16; decide)), by kernel_rfl, by decide⟩
def q14 : Pr := ⟨⟨#[109, 105, 110]⟩, [1, 1], fun _ l => oneR (nmR miK (l.getD 0 zT).n (l.getD 1 zT).n)⟩
theorem o14 : PrO q14 1 := ⟨⟨wt_14, cy_md mn_14 (by kernel_rfl) md_min, by decide, by decide⟩, fun d l ls h => one_ok (r := (nmR miK (l.getD 0 zT).n (l.getD 1 zT).n)) h, fun d l n h => nm_er (one_er (r := (nmR miK (l.getD 0 zT).n (l.getD 1 zT).n)) h) (by show (0 : Int) ≠ 16; decide), by kernel_rfl, by decide⟩
def q15 : Pr := ⟨⟨#[109, 97, 120]⟩, [1, 1], fun _ l => oneR (nmR maK (l.getD 0 zT).n (l.getD 1 zT).n)⟩
theorem o15 : PrO q15 1 := ⟨⟨wt_15, cy_md mn_15 (by kernel_rfl) md_max, by decide, by decide⟩, fun d l ls h => one_ok (r := (nmR maK (l.getD 0 zT).n (l.getD 1 zT).n)) h, fun d l n h => nm_er (one_er (r := (nmR maK (l.getD 0 zT).n (l.getD 1 zT).n)) h) (by show (0 : Int) ≠ 16; decide), by kernel_rfl, by decide⟩
def q16 : Pr := ⟨⟨#[60]⟩, [1, 1], fun _ l => oneR (.ok (boT (decide ((l.getD 0 zT).n < (l.getD 1 zT).n))))⟩
theorem o16 : PrO q16 1 := ⟨⟨wt_16, cy_md mn_16 (by kernel_rfl) (mh_lt ho_lt), by decide, by decide⟩, fun d l ls h => one_ok (r := (.ok (boT (decide ((l.getD 0 zT).n < (l.getD 1 zT).n))))) h, fun d l n h => (by cases (one_er (r := (.ok (boT (decide ((l.getD 0 zT).n < (l.getD 1 zT).n))))) h)), by kernel_rfl, by decide⟩
def q17 : Pr := ⟨⟨#[62]⟩, [1, 1], fun _ l => oneR (.ok (boT (decide ((l.getD 0 zT).n > (l.getD 1 zT).n))))⟩
theorem o17 : PrO q17 1 := ⟨⟨wt_17, cy_md mn_17 (by kernel_rfl) (mh_gt ho_gt), by decide, by decide⟩, fun d l ls h => one_ok (r := (.ok (boT (decide ((l.getD 0 zT).n > (l.getD 1 zT).n))))) h, fun d l n h => (by cases (one_er (r := (.ok (boT (decide ((l.getD 0 zT).n > (l.getD 1 zT).n))))) h)), by kernel_rfl, by decide⟩
def q18 : Pr := ⟨⟨#[61]⟩, [63, 63], fun d l => oneR (eqR d l)⟩
theorem o18 : PrO q18 1 := ⟨⟨wt_18, cy_md mn_18 (by kernel_rfl) md_eq, by decide, by decide⟩, fun d l ls h => one_ok (r := (eqR d l)) h, fun d l n h => (by cases (one_er (r := (eqR d l)) h)), by kernel_rfl, by decide⟩
def q19 : Pr := ⟨⟨#[97, 110, 100]⟩, [4, 4], fun _ l => oneR (.ok (boT (flB (l.getD 0 zT) && flB (l.getD 1 zT))))⟩
theorem o19 : PrO q19 1 := ⟨⟨wt_19, cy_md mn_19 (by kernel_rfl) (mh_and ho_and), by decide, by decide⟩, fun d l ls h => one_ok (r := (.ok (boT (flB (l.getD 0 zT) && flB (l.getD 1 zT))))) h, fun d l n h => (by cases (one_er (r := (.ok (boT (flB (l.getD 0 zT) && flB (l.getD 1 zT))))) h)), by kernel_rfl, by decide⟩
def q20 : Pr := ⟨⟨#[111, 114]⟩, [4, 4], fun _ l => oneR (.ok (boT (flB (l.getD 0 zT) || flB (l.getD 1 zT))))⟩
theorem o20 : PrO q20 1 := ⟨⟨wt_20, cy_md mn_20 (by kernel_rfl) (mh_or ho_or), by decide, by decide⟩, fun d l ls h => one_ok (r := (.ok (boT (flB (l.getD 0 zT) || flB (l.getD 1 zT))))) h, fun d l n h => (by cases (one_er (r := (.ok (boT (flB (l.getD 0 zT) || flB (l.getD 1 zT))))) h)), by kernel_rfl, by decide⟩
def q21 : Pr := ⟨⟨#[110, 111, 116]⟩, [4], fun _ l => oneR (.ok (boT (!flB (l.getD 0 zT))))⟩
theorem o21 : PrO q21 1 := ⟨⟨wt_21, cy_md mn_21 (by kernel_rfl) (mh_not ho_not), by decide, by decide⟩, fun d l ls h => one_ok (r := (.ok (boT (!flB (l.getD 0 zT))))) h, fun d l n h => (by cases (one_er (r := (.ok (boT (!flB (l.getD 0 zT))))) h)), by kernel_rfl, by decide⟩
def q22 : Pr := ⟨⟨#[105, 110, 116, 63]⟩, [63], fun _ l => oneR (.ok (boT (kd (l.getD 0 zT) == 1)))⟩
theorem o22 : PrO q22 1 := ⟨⟨wt_22, cy_md mn_22 (by kernel_rfl) (mh_intQ ho_intQ), by decide, by decide⟩, fun d l ls h => one_ok (r := (.ok (boT (kd (l.getD 0 zT) == 1)))) h, fun d l n h => (by cases (one_er (r := (.ok (boT (kd (l.getD 0 zT) == 1)))) h)), by kernel_rfl, by decide⟩
def q23 : Pr := ⟨⟨#[115, 116, 114, 63]⟩, [63], fun _ l => oneR (.ok (boT (kd (l.getD 0 zT) == 2)))⟩
theorem o23 : PrO q23 1 := ⟨⟨wt_23, cy_md mn_23 (by kernel_rfl) (mh_strQ ho_strQ), by decide, by decide⟩, fun d l ls h => one_ok (r := (.ok (boT (kd (l.getD 0 zT) == 2)))) h, fun d l n h => (by cases (one_er (r := (.ok (boT (kd (l.getD 0 zT) == 2)))) h)), by kernel_rfl, by decide⟩
def q24 : Pr := ⟨⟨#[98, 111, 111, 108, 63]⟩, [63], fun _ l => oneR (.ok (boT (kd (l.getD 0 zT) == 4)))⟩
theorem o24 : PrO q24 1 := ⟨⟨wt_24, cy_md mn_24 (by kernel_rfl) (mh_boolQ ho_boolQ), by decide, by decide⟩, fun d l ls h => one_ok (r := (.ok (boT (kd (l.getD 0 zT) == 4)))) h, fun d l n h => (by cases (one_er (r := (.ok (boT (kd (l.getD 0 zT) == 4)))) h)), by kernel_rfl, by decide⟩
def q25 : Pr := ⟨⟨#[108, 105, 115, 116, 63]⟩, [63], fun _ l => oneR (.ok (boT (kd (l.getD 0 zT) == 8)))⟩
theorem o25 : PrO q25 1 := ⟨⟨wt_25, cy_md mn_25 (by kernel_rfl) (mh_listQ ho_listQ), by decide, by decide⟩, fun d l ls h => one_ok (r := (.ok (boT (kd (l.getD 0 zT) == 8)))) h, fun d l n h => (by cases (one_er (r := (.ok (boT (kd (l.getD 0 zT) == 8)))) h)), by kernel_rfl, by decide⟩
def q26 : Pr := ⟨⟨#[113, 117, 111, 116, 63]⟩, [63], fun _ l => oneR (.ok (boT (kd (l.getD 0 zT) == 16)))⟩
theorem o26 : PrO q26 1 := ⟨⟨wt_26, cy_md mn_26 (by kernel_rfl) (mh_quotQ ho_quotQ), by decide, by decide⟩, fun d l ls h => one_ok (r := (.ok (boT (kd (l.getD 0 zT) == 16)))) h, fun d l n h => (by cases (one_er (r := (.ok (boT (kd (l.getD 0 zT) == 16)))) h)), by kernel_rfl, by decide⟩
def q27 : Pr := ⟨⟨#[98, 111, 120, 63]⟩, [63], fun _ l => oneR (.ok (boT (kd (l.getD 0 zT) == 32)))⟩
theorem o27 : PrO q27 1 := ⟨⟨wt_27, cy_md mn_27 (by kernel_rfl) (mh_boxQ ho_boxQ), by decide, by decide⟩, fun d l ls h => one_ok (r := (.ok (boT (kd (l.getD 0 zT) == 32)))) h, fun d l n h => (by cases (one_er (r := (.ok (boT (kd (l.getD 0 zT) == 32)))) h)), by kernel_rfl, by decide⟩
def q28 : Pr := ⟨⟨#[108, 101, 110, 103, 116, 104]⟩, [26], fun _ l => oneR (.ok (inT (lnT (l.getD 0 zT))))⟩
theorem o28 : PrO q28 1 := ⟨⟨wt_28, cy_md mn_28 (by kernel_rfl) md_length, by decide, by decide⟩, fun d l ls h => one_ok (r := (.ok (inT (lnT (l.getD 0 zT))))) h, fun d l n h => (by cases (one_er (r := (.ok (inT (lnT (l.getD 0 zT))))) h)), by kernel_rfl, by decide⟩
def q29 : Pr := ⟨⟨#[97, 112, 112, 101, 110, 100]⟩, [26, 26], fun _ l => oneR (jnR (l.getD 0 zT) (l.getD 1 zT))⟩
theorem o29 : PrO q29 1 := ⟨⟨wt_29, cy_md mn_29 (by kernel_rfl) md_append, by decide, by decide⟩, fun d l ls h => one_ok (r := (jnR (l.getD 0 zT) (l.getD 1 zT))) h, fun d l n h => jn_er (one_er (r := (jnR (l.getD 0 zT) (l.getD 1 zT))) h), by kernel_rfl, by decide⟩
def q30 : Pr := ⟨⟨#[110, 116, 104]⟩, [1, 10], fun _ l => oneR (ntR (l.getD 0 zT).n (l.getD 1 zT))⟩
theorem o30 : PrO q30 1 := ⟨⟨wt_30, cy_md mn_30 (by kernel_rfl) md_nth, by decide, by decide⟩, fun d l ls h => one_ok (r := (ntR (l.getD 0 zT).n (l.getD 1 zT))) h, fun d l n h => nt_er (one_er (r := (ntR (l.getD 0 zT).n (l.getD 1 zT))) h), by kernel_rfl, by decide⟩
def q31 : Pr := ⟨⟨#[115, 108, 105, 99, 101]⟩, [1, 1, 10], fun _ l => oneR (pcR (l.getD 0 zT).n (l.getD 1 zT).n (l.getD 2 zT))⟩
theorem o31 : PrO q31 1 := ⟨⟨wt_31, cy_md mn_31 (by kernel_rfl) md_slice, by decide, by decide⟩, fun d l ls h => one_ok (r := (pcR (l.getD 0 zT).n (l.getD 1 zT).n (l.getD 2 zT))) h, fun d l n h => pc_er (one_er (r := (pcR (l.getD 0 zT).n (l.getD 1 zT).n (l.getD 2 zT))) h), by kernel_rfl, by decide⟩
def q32 : Pr := ⟨⟨#[119, 114, 97, 112]⟩, [63], fun _ l => oneR (.ok (lisT l))⟩
theorem o32 : PrO q32 1 := ⟨⟨wt_32, cy_md mn_32 (by kernel_rfl) md_wrap, by decide, by decide⟩, fun d l ls h => one_ok (r := (.ok (lisT l))) h, fun d l n h => (by cases (one_er (r := (.ok (lisT l))) h)), by kernel_rfl, by decide⟩
def q33 : Pr := ⟨⟨#[112, 97, 105, 114]⟩, [63, 63], fun _ l => oneR (.ok (lisT l))⟩
theorem o33 : PrO q33 1 := ⟨⟨wt_33, cy_md mn_33 (by kernel_rfl) md_pair, by decide, by decide⟩, fun d l ls h => one_ok (r := (.ok (lisT l))) h, fun d l n h => (by cases (one_er (r := (.ok (lisT l))) h)), by kernel_rfl, by decide⟩
def q34 : Pr := ⟨⟨#[117, 110, 112, 97, 105, 114]⟩, [8], fun _ => unR⟩
theorem o34 : PrO q34 2 := ⟨⟨wt_34, cy_unpair mn_34, by decide, by decide⟩, fun d l ls h => un_ok h, fun d l n h => un_er h, by kernel_rfl, by decide⟩
def q35 : Pr := ⟨⟨#[114, 101, 118, 101, 114, 115, 101]⟩, [10], fun _ l => oneR (.ok (rvT (l.getD 0 zT)))⟩
theorem o35 : PrO q35 1 := ⟨⟨wt_35, cy_md mn_35 (by kernel_rfl) md_reverse, by decide, by decide⟩, fun d l ls h => one_ok (r := (.ok (rvT (l.getD 0 zT)))) h, fun d l n h => (by cases (one_er (r := (.ok (rvT (l.getD 0 zT)))) h)), by kernel_rfl, by decide⟩
def q36 : Pr := ⟨⟨#[99, 117, 114, 114, 121]⟩, [63, 16], fun _ l => oneR (jnR (quoT [l.getD 0 zT]) (l.getD 1 zT))⟩
theorem o36 : PrO q36 1 := ⟨⟨wt_36, cy_md mn_36 (by kernel_rfl) md_curry, by decide, by decide⟩, fun d l ls h => one_ok (r := (jnR (quoT [l.getD 0 zT]) (l.getD 1 zT))) h, fun d l n h => jn_er (one_er (r := (jnR (quoT [l.getD 0 zT]) (l.getD 1 zT))) h), by kernel_rfl, by decide⟩
def q37 : Pr := ⟨⟨#[99, 111, 109, 112, 111, 115, 101]⟩, [16, 16], fun _ l => oneR (jnR (l.getD 0 zT) (l.getD 1 zT))⟩
theorem o37 : PrO q37 1 := ⟨⟨wt_37, cy_md mn_37 (by kernel_rfl) md_compose, by decide, by decide⟩, fun d l ls h => one_ok (r := (jnR (l.getD 0 zT) (l.getD 1 zT))) h, fun d l n h => jn_er (one_er (r := (jnR (l.getD 0 zT) (l.getD 1 zT))) h), by kernel_rfl, by decide⟩
def q38 : Pr := ⟨⟨#[62, 115, 116, 114]⟩, [63], fun d l => oneR (txR d l)⟩
theorem o38 : PrO q38 1 := ⟨⟨wt_38, cy_md mn_38 (by kernel_rfl) md_str, by decide, by decide⟩, fun d l ls h => one_ok (r := (txR d l)) h, fun d l n h => (by cases (one_er (r := (txR d l)) h)), by kernel_rfl, by decide⟩
def q39 : Pr := ⟨⟨#[62, 105, 110, 116]⟩, [2], fun d l => oneR (nuR d l)⟩
theorem o39 : PrO q39 1 := ⟨⟨wt_39, cy_md mn_39 (by kernel_rfl) md_int, by decide, by decide⟩, fun d l ls h => one_ok (r := (nuR d l)) h, fun d l n h => nu_er (one_er (r := (nuR d l)) h), by kernel_rfl, by decide⟩
def fourL : List (List UInt8) := [[98, 111, 120], [103, 101, 116], [112, 117, 116], [46]]
theorem pm_tb : ∀ x ∈ pmL, x.1 ∈ tbL ∨ x.1 ∈ fourL := by
 unfold pmL tbL fourL
 decide
theorem tb_four : ∀ l ∈ tbL, l ∉ fourL := by
 unfold tbL fourL
 decide
theorem pm_out {s : ByteArray} (h : s.toList ∉ tbL) (h4 : s.toList ∉ fourL) : pmR s = (0, 0, false) := by
 unfold pmR
 refine pmF_no _ _ (fun x hx e => ?_)
 rcases pm_tb x hx with g | g
 ·rw [← e] at g; exact h g
 ·rw [← e] at g; exact h4 g
theorem table_in {s : ByteArray} {n : Int} (h : s.toList ∈ tbL) (hp : (pmR s).1 = n ∧ (pmR s).2.2 = true) (w : World) : Cz 19 #[.string s] w fun e w' => e = .returned (.tuple #[.int .i64 n, .bool true]) ∧ Oz w w' := by
 have HR : Hid _ := rprim_any s w
 obtain ⟨y, hy⟩ : ∃ y, y = (pmR s).2.1 := ⟨_, rfl⟩
 rw [hp.1, hp.2, ← hy] at HR
 have h4 := tb_four _ h
 have e1 : (s.toList == [98, 111, 120]) = false := by rw [beq_eq_false_iff_ne]; intro e; rw [e] at h4; exact h4 (by decide)
 have e2 : (s.toList == [103, 101, 116]) = false := by rw [beq_eq_false_iff_ne]; intro e; rw [e] at h4; exact h4 (by decide)
 have e3 : (s.toList == [112, 117, 116]) = false := by rw [beq_eq_false_iff_ne]; intro e; rw [e] at h4; exact h4 (by decide)
 have e4 : (s.toList == [46]) = false := by rw [beq_eq_false_iff_ne]; intro e; rw [e] at h4; exact h4 (by decide)
 clear h hp hy h4
 go_enter Tryz.func19, Tryz.ntmps19
 go_wp2_with fail
 refine (show Cz 36 _ _ _ from HR.out).mono ?_
 rintro e w1 ⟨rfl, o1⟩
 have O1 : Hid (Oz w w1) := o1
 clear HR o1
 go_wp2
 go_ret2
 exact ⟨rfl, O1.out⟩
theorem table_out {s : ByteArray} (h : s.toList ∉ tbL) (w : World) : Cz 19 #[.string s] w fun e w' => ∃ n, e = .returned (.tuple #[.int .i64 n, .bool false]) ∧ Oz w w' := by
 have HR : Hid _ := rprim_any s w
 by_cases h4 : s.toList ∈ fourL
 ·obtain ⟨n, hn⟩ : ∃ n, n = (pmR s).1 := ⟨_, rfl⟩
  obtain ⟨y, hy⟩ : ∃ y, y = (pmR s).2.1 := ⟨_, rfl⟩
  obtain ⟨z, hz⟩ : ∃ z, z = (pmR s).2.2 := ⟨_, rfl⟩
  rw [← hn, ← hy, ← hz] at HR
  clear hn hy hz h
  have h4' : s.toList = [98, 111, 120] ∨ s.toList = [103, 101, 116] ∨ s.toList = [112, 117, 116] ∨ s.toList = [46] := by simpa [fourL] using h4
  clear h4
  rcases h4' with e | e | e | e
  all_goals
   obtain rfl := to_lit e
   clear e
   cases z
   all_goals
    go_enter Tryz.func19, Tryz.ntmps19
    go_wp2_with fail
    refine (show Cz 36 _ _ _ from HR.out).mono ?_
    rintro e w1 ⟨rfl, o1⟩
    have O1 : Hid (Oz w w1) := o1
    clear HR o1
    go_wp2
    go_ret2
    exact ⟨_, rfl, O1.out⟩
 ·rw [pm_out h h4] at HR
  clear h h4
  go_enter Tryz.func19, Tryz.ntmps19
  go_wp2_with fail
  refine (show Cz 36 _ _ _ from HR.out).mono ?_
  rintro e w1 ⟨rfl, o1⟩
  have O1 : Hid (Oz w w1) := o1
  clear HR o1
  go_wp2
  go_ret2
  exact ⟨_, rfl, O1.out⟩
end Go.Proofs.YtenjollhlgjjdaaGreatDoor
