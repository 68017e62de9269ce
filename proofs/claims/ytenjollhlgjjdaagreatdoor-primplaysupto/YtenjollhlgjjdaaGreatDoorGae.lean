import Derived.Test.YtenjollhlgjjdaaGreatDoorGaa
import Derived.Test.YtenjollhlgjjdaaGreatDoorGad
import Derived.Deep.AppendSrc
import Derived.Lib.SliceRun
import Derived.Laws.MakeOwn
import Derived.Laws.CopyRow
import Derived.Shelf.Spec.SlicesGrow
import Derived.Test.YtenjollhlgjjdaaGreatDoorProg
import Derived.Test.YtenjollhlgjjdaaGreatDoorGac
/-     -/
set_option linter.unusedSimpArgs false
set_option linter.unusedVariables false
set_option maxRecDepth 100000
set_option maxHeartbeats 40000000
namespace Go.Proofs.YtenjollhlgjjdaaGreatDoor
open Go.RowKit Go.Lib
theorem mk_row {sT eT : TypeId} (hT : Tryz.prog.underlying sT = some (.slice eT)) (hI : (Tryz.prog.info? eT).map (fun i => (i.zero, i.size, i.bytes)) = some (some .nilIface, 1, 16)) (n : Nat) (hn : n ≤ 1048576) : ∃ M : Array Value, M.size = n ∧ ∀ w : World, (Instr.makeSlice sT (.int .i64 0) (.int .i64 n)).run Tryz.prog w = .ok (.slice (some ⟨w.heap.size, 0, none⟩) 0 n) (w.alloc (.cells M eT)) := by
 obtain ⟨i0, hi0, hz0, hz1, hz2⟩ := vinfo_parts hI
 refine ⟨madeCells (Value.nilIface).cells n, size_madeCells _ _, fun w => ?_⟩
 have := run_make (P := Tryz.prog) w sT eT i0 _ hT hi0 hz0 .i64 .i64 0 (n : Int) (by omega) (by omega) (by rw [hz2]; omega) (by omega)
 rw [hz1, show ((n : Int)).toNat = n by omega, Nat.mul_one] at this
 exact this
theorem ap_row {sT eT : TypeId} (hT : Tryz.prog.underlying sT = some (.slice eT)) (hI : (Tryz.prog.info? eT).map (fun i => (i.zero, i.size, i.bytes)) = some (some .nilIface, 1, 16)) {W : World} {g n cap : Nat} {a : Addr} {us : List Value} {cur : Array Value} (hl : us.length = n) (hu : ∀ j u, us[j]? = some u → W.cell? (a.add j) = some u) (h1 : ∀ u ∈ us, u.oneCell' = true) (hg : W.heap[g]? = some (.cells cur eT)) (hc : cur.size = n) (ty : TypeId) :
  (Builtin.append_ #[sT, sT] ty #[.slice (some ⟨g, 0, none⟩) 0 n, .slice (some a) n cap]).run Tryz.prog W = .ok (.slice (some ⟨g, 0, none⟩) n n) (W.setRow g us.toArray) := by
 obtain ⟨i0, hi, hz0, hz1, hz2⟩ := vinfo_parts hI
 have hs : Src Tryz.prog i0.size sT (.slice (some a) n cap) n us W := Src.ofSlice W hT a n cap us (by rw [hz1, Nat.mul_one]; exact hl) hu h1
 have hst := run_storeCells_at Tryz.prog g 0 eT us 0 cur W hg (by omega) h1
 simp only [Nat.add_zero, Nat.zero_add, List.take_zero, List.nil_append] at hst
 rw [show cur.toList.drop us.length = [] from List.drop_eq_nil_of_le (by simp; omega), List.append_nil] at hst
 have hroom : 0 + n ≤ n := by omega
 rcases hs.kind with ⟨e', hk⟩ | hk <;> simp [Builtin.append_, run_underlying hT, run_underlying hk, sizeOf, typeInfo, hi, hs.len, hroom, hs.cells, Addr.add_lit, hst]
theorem setRow_only {w : World} {g : Nat} {cs : Array Value} : Only (fun b => b = g) w (w.setRow g cs) := by
 refine ⟨rfl, rfl, rfl, by simp [World.setRow], fun j _ hne => ?_⟩
 show (w.heap.modify g _)[j]? = w.heap[j]?
 rw [Array.getElem?_modify, if_neg (fun h => hne h.symm)]
theorem TiAt.one {w : World} {S : Nat → Prop} {d : Nat} {i : Bool} {t : Vt} {v : Value} (h : TiAt w S d i t v) : v.oneCell' = true := by
 cases d with
 | zero => exact h.elim
 | succ d =>
   cases i with
   | true => rcases h with ⟨_, _, rfl⟩ | ⟨_, _, rfl⟩ | ⟨_, _, u, rfl, _⟩ <;> rfl
   | false => rcases h with ⟨_, _, rfl⟩ | ⟨_, _, rfl⟩ | ⟨_, _, rfl⟩ | ⟨_, _, rfl⟩ | ⟨_, _, rfl⟩ | ⟨_, ao, cap, rfl, _⟩ <;> rfl
theorem TiAt.shape2 {w : World} {S : Nat → Prop} {d : Nat} {i : Bool} {t : Vt} {v : Value} (h : TiAt w S d i t v) : v = .nilIface ∨ ∃ T y, v = .iface T y := by
 cases d with
 | zero => exact h.elim
 | succ d =>
   cases i with
   | true => rcases h with ⟨_, _, rfl⟩ | ⟨_, _, rfl⟩ | ⟨_, _, u, rfl, _⟩ <;> first | exact .inl rfl | exact .inr ⟨_, _, rfl⟩
   | false => rcases h with ⟨_, _, rfl⟩ | ⟨_, _, rfl⟩ | ⟨_, _, rfl⟩ | ⟨_, _, rfl⟩ | ⟨_, _, rfl⟩ | ⟨_, ao, cap, rfl, _⟩ <;> first | exact .inl rfl | exact .inr ⟨_, _, rfl⟩
def AnP (eT : TypeId) (us : List Value) (w : World) (e : Ending) (w' : World) : Prop := (us = [] ∧ e = .returned (.slice none 0 0) ∧ w' = w) ∨ ∃ g, e = .returned (.slice (some ⟨g, 0, none⟩) us.length us.length) ∧ w.heap.size ≤ g ∧ w'.heap[g]? = some (.cells us.toArray eT) ∧ Only (fun _ => False) w w'
def CpC (d : Nat) (i : Bool) (F : Nat) : Prop := ∀ (t : Vt) (v : Value) (w : World) (S : Nat → Prop), TiAt w S d i t v → (∃ e, SmT e t) → (∀ b, S b → b < w.heap.size) → Calls Tryz.prog F #[v] w fun e w' => ∃ v', e = .returned v' ∧ Hid (NiAt w' w.heap.size d i t v' ∧ Only (fun _ => False) w w')
def PsAt (w : World) (S : Nat → Prop) (d : Nat) (i : Bool) (l : List Vt) (ao : Option Addr) : Prop := ∀ (j : Nat) (x : Vt), l[j]? = some x → ∃ g q u, ao = some ⟨g, q, none⟩ ∧ S g ∧ w.cell? ⟨g, q + j, none⟩ = some u ∧ TiAt w S d i x u
def CeC (d : Nat) (i : Bool) (F G : Nat) : Prop := ∀ (l : List Vt) (ao : Option Addr) (cap : Nat) (w : World) (S : Nat → Prop), PsAt w S d i l ao → (∀ b, S b → b < w.heap.size) → (∀ x ∈ l, ∃ e, SmT e x) → l.length ≤ 1048576 → (ao = none → l = []) →
 Calls Tryz.prog G #[.slice ao l.length cap, .func (.func F) #[] #[]] w fun e w' => ∃ ao' cap', e = .returned (.slice ao' l.length cap') ∧ Hid (l.length ≤ cap' ∧ (∃ S', PsAt w' S' d i l ao' ∧ ∀ b, S' b → w.heap.size ≤ b ∧ Liv w' b) ∧ Only (fun _ => False) w w')
theorem ps_row0 {w : World} {S : Nat → Prop} {d : Nat} {i : Bool} {l : List Vt} {ao : Option Addr} (h : PsAt w S d i l ao) : ∀ m, m ≤ l.length → ∃ us : List Value, us.length = m ∧ ∀ (j : Nat) (u : Value), us[j]? = some u → ∃ x, l[j]? = some x ∧ (∀ a, ao = some a → w.cell? (a.add j) = some u) ∧ TiAt w S d i x u := by
 intro m
 induction m with
 | zero => intro _; exact ⟨[], rfl, fun j u hu => by simp at hu⟩
 | succ m ih =>
   intro hm
   obtain ⟨us, h1, h2⟩ := ih (by omega)
   obtain ⟨g, q, u, ha, hg, hc, ht⟩ := h m (l[m]'(by omega)) (List.getElem?_eq_getElem (by omega))
   refine ⟨us ++ [u], by simp [h1], fun j v hv => ?_⟩
   by_cases hj : j < us.length
   ·rw [List.getElem?_append_left hj] at hv
    exact h2 j v hv
   ·have hj2 := (List.getElem?_eq_some_iff.1 hv).1
    have hj3 : j = us.length := by simp at hj2; omega
    subst hj3
    simp at hv
    subst hv
    refine ⟨_, by rw [h1]; exact List.getElem?_eq_getElem (by omega), fun a e => ?_, ht⟩
    rw [ha] at e
    injection e with e
    rw [← e, Addr.add_mid, h1]
    exact hc
theorem ps_row {w : World} {S : Nat → Prop} {d : Nat} {i : Bool} {l : List Vt} {ao : Option Addr} (h : PsAt w S d i l ao) : ∃ us : List Value, us.length = l.length ∧ (∀ u ∈ us, u.oneCell' = true) ∧ (∀ a, ao = some a → ∀ j u, us[j]? = some u → w.cell? (a.add j) = some u) ∧ ∀ (j : Nat) (x : Vt), l[j]? = some x → ∃ u, us[j]? = some u ∧ TiAt w S d i x u := by
 obtain ⟨us, h1, h2⟩ := ps_row0 h l.length (Nat.le_refl _)
 refine ⟨us, h1, fun u hu => ?_, fun a e j u hu => ?_, fun j x hx => ?_⟩
 ·obtain ⟨j, hj, e⟩ := List.mem_iff_getElem.1 hu
  obtain ⟨x, _, _, ht⟩ := h2 j u (by rw [← e]; exact List.getElem?_eq_getElem hj)
  exact ht.one
 ·obtain ⟨x, _, hc, _⟩ := h2 j u hu
  exact hc a e
 ·have hj := (List.getElem?_eq_some_iff.1 hx).1
  obtain ⟨y, hy, _, ht⟩ := h2 j (us[j]'(by omega)) (List.getElem?_eq_getElem (by omega))
  rw [hx] at hy
  injection hy with hy
  rw [hy]
  exact ⟨_, List.getElem?_eq_getElem (by omega), ht⟩
def CeI (w wr : World) (S : Nat → Prop) (d : Nat) (i : Bool) (eT : TypeId) (l : List Vt) (G j : Nat) : Prop :=
 ∃ (vs : List Value) (S' : Nat → Prop), vs.length = l.length ∧ wr.heap[G]? = some (.cells vs.toArray eT) ∧ Only (fun _ => False) w wr ∧ w.heap.size ≤ G ∧
   (∀ b, S' b → w.heap.size ≤ b ∧ Liv wr b ∧ b ≠ G) ∧ (∀ u ∈ vs, u.oneCell' = true) ∧ ∀ (k : Nat) (x : Vt), l[k]? = some x → ∃ u, vs[k]? = some u ∧ (k < j → TiAt wr S' d i x u) ∧ (j ≤ k → TiAt wr S d i x u)
theorem CeI.step {w wr w2 : World} {S : Nat → Prop} {d : Nat} {i : Bool} {eT : TypeId} {l : List Vt} {G j : Nat} {x : Vt} {v' : Value} (hS : ∀ b, S b → b < w.heap.size) (h : CeI w wr S d i eT l G j) (hx : l[j]? = some x) (hn : NiAt w2 wr.heap.size d i x v') (o : Only (fun _ => False) wr w2) : CeI w (w2.setCell ⟨G, j, none⟩ v') S d i eT l G (j + 1) := by
 obtain ⟨vs, S', h1, h2, h3, h4, h5, h6, h7⟩ := h
 obtain ⟨S2, t2, s2⟩ := hn
 have hGlt : G < wr.heap.size := (Array.getElem?_eq_some_iff.1 h2).1
 have hw2 : w2.heap[G]? = some (.cells vs.toArray eT) := (o.block G hGlt (fun g => g)).trans h2
 have hjl : j < l.length := (List.getElem?_eq_some_iff.1 hx).1
 have oo : Only (fun b => b = G) w2 (w2.setCell ⟨G, j, none⟩ v') := (Only.refl _ _).setCell ⟨G, j, none⟩ v' (fun _ => rfl)
 have hsz : (w2.setCell ⟨G, j, none⟩ v').heap.size = w2.heap.size := by simp
 refine ⟨vs.set j v', fun b => S' b ∨ S2 b, by simpa using h1, ?_, (h3.trans o (fun _ _ g => g)).trans oo (fun b hb e => by omega), h4, fun b hb => ?_, fun u hu => ?_, fun k y hy => ?_⟩
 ·rw [heap_setCell_same w2 G j vs.toArray eT v' hw2]
  simp
 ·rcases hb with g | g
  ·obtain ⟨a1, a2, a3⟩ := h5 b g
   exact ⟨a1, (a2.only o (fun g => g)).only oo a3, a3⟩
  ·obtain ⟨a1, a2⟩ := s2 b g
   have a3 : b ≠ G := by omega
   exact ⟨Nat.le_trans h3.size a1, a2.only oo a3, a3⟩
 ·rcases List.mem_or_eq_of_mem_set hu with g | g
  ·exact h6 u g
  ·rw [g]; exact t2.one
 ·obtain ⟨u, p1, p2, p3⟩ := h7 k y hy
  have nS : ∀ b, S b → ¬ b = G := fun b g e => by have := hS b g; omega
  by_cases hk : k = j
  ·subst hk
   rw [hx] at hy
   injection hy with hy
   subst hy
   refine ⟨v', by rw [List.getElem?_set_self (by omega)], fun _ => ?_, fun g => by omega⟩
   exact (t2.only oo (fun b g e => by have := (s2 b g).1; omega)).step (fun _ g => .inr g) (fun _ _ _ g => g) (Nat.le_refl _)
  ·refine ⟨u, by rw [List.getElem?_set_ne (fun e => hk e.symm)]; exact p1, fun g => ?_, fun g => ?_⟩
   ·have t1 := p2 (by omega)
    exact ((t1.only o (fun _ _ g => g)).only oo (fun b g => (h5 b g).2.2)).step (fun _ g => .inl g) (fun _ _ _ g => g) (Nat.le_refl _)
   ·exact ((p3 (by omega)).only o (fun _ _ g => g)).only oo nS
theorem anew_v (us : List Value) (h1 : ∀ u ∈ us, u.oneCell' = true) (ao : Option Addr) (cap : Nat) (w : World) (hn : us.length ≤ 1048576) (hnil : ao = none → us = []) (hc : ∀ a, ao = some a → ∀ j u, us[j]? = some u → w.cell? (a.add j) = some u) : Calls Tryz.prog 105 #[.slice ao us.length cap] w fun e w' => AnP 41 us w e w' := by
 cases ao with
 | none =>
   have e0 := hnil rfl
   subst e0
   have heq : (binOp .eql 25 (.slice none 0 cap) (.slice none 0 0)).run Tryz.prog w = .ok (.bool true) w := Go.Lib.run_eql_slice_nil w _ _ none 0 cap 0 0 Tryz.underlying25
   have HP : Hid (∀ e, e = .returned (.slice none 0 0) → AnP 41 [] w e w) := fun e he => .inl ⟨rfl, he, rfl⟩
   clear h1 hn hnil hc
   go_enter Tryz.func105, Tryz.ntmps105
   go_wp2
   go_ret
   exact HP.out _ rfl
 | some a =>
   obtain ⟨M, hM, hmk0⟩ := mk_row Tryz.underlying25 vinfoV us.length hn
   have hmk := hmk0 w
   obtain ⟨W, hW⟩ : ∃ W, W = w.alloc (.cells M 41) := ⟨_, rfl⟩
   have o1 : Only (fun _ => False) w W := by rw [hW]; exact (Only.refl _ w).alloc _
   have hgW : W.heap[w.heap.size]? = some (.cells M 41) := by rw [hW]; exact heap_alloc_new w _
   have hap : ∀ ty, _ := ap_row Tryz.underlying25 vinfoV (W := W) (cap := cap) rfl (fun j u hu => o1.cell (hc a rfl j u hu) (fun g => g)) h1 hgW hM
   obtain ⟨N, hN⟩ : ∃ N, N = us.length := ⟨_, rfl⟩
   have HP : Hid (AnP 41 us w (.returned (.slice (some ⟨w.heap.size, 0, none⟩) N N)) (W.setRow w.heap.size us.toArray)) := by
    refine .inr ⟨w.heap.size, by rw [hN], Nat.le_refl _, setRow_heap W _ M _ _ _ hgW, o1.trans setRow_only (fun b hb e => by omega)⟩
   obtain ⟨U, hU⟩ : ∃ U, U = W.setRow w.heap.size us.toArray := ⟨_, rfl⟩
   rw [← hN, ← hU] at hap
   rw [← hU] at HP
   rw [← hN, ← hW] at hmk
   have HR : Hid _ := hap
   have heq : (binOp .eql 25 (.slice (some a) N cap) (.slice none 0 0)).run Tryz.prog w = .ok (.bool false) w := Go.Lib.run_eql_slice_nil w _ _ (some a) N cap 0 0 Tryz.underlying25
   have i1 : N ≤ 1048576 := by omega
   rw [← hN]
   clear h1 hn hnil hc hM hmk0 hW o1 hgW hap hN hU
   go_enter Tryz.func105, Tryz.ntmps105
   go_wp2_with (at_builtin; refine vwpList_append_run rfl _ _ 25 rfl _ _ _ rfl rfl HR.out ?_)
   go_ret
   exact HP.out
theorem ce_v (d : Nat) (H : CpC d false 49) : CeC d false 49 77 := by
 intro l ao cap w S hl hS hsm hlen hnil
 obtain ⟨us, u1, u2, u3, u4⟩ := ps_row hl
 have HA : Hid (Calls Tryz.prog 105 #[.slice ao us.length cap] w fun e w' => AnP 41 us w e w') := anew_v us u2 ao cap w (by omega) (fun e => List.length_eq_zero_iff.1 (by rw [u1, hnil e]; rfl)) u3
 obtain ⟨N, hN⟩ : ∃ N, N = l.length := ⟨_, rfl⟩
 have HN : Hid (N = l.length ∧ N ≤ 1048576 ∧ us.length = l.length) := ⟨hN, by omega, u1⟩
 rw [u1, ← hN] at HA
 rw [← hN]
 have HT : Hid ((∀ (j : Nat) (x : Vt), l[j]? = some x → ∃ u, us[j]? = some u ∧ TiAt w S d false x u) ∧ (∀ u ∈ us, u.oneCell' = true) ∧ (∀ b, S b → b < w.heap.size) ∧ ∀ x ∈ l, ∃ e, SmT e x) := ⟨u4, u2, hS, hsm⟩
 clear hl hS hsm hlen hnil u1 u2 u3 u4 hN
 go_enter Tryz.func77, Tryz.ntmps77
 go_wp2_with fail
 refine (show Calls Tryz.prog 105 _ _ _ from HA.out).mono ?_
 intro e w1 g1
 rcases g1 with ⟨e0, rfl, rfl⟩ | ⟨G, rfl, hG, hr1, o1⟩
 ·have hz : N = 0 := by rw [HN.out.1, ← HN.out.2.2, e0]; rfl
  have HF : Hid (N = 0 ∧ l = []) := ⟨hz, List.length_eq_zero_iff.1 (by rw [← HN.out.1]; exact hz)⟩
  clear HA hz e0
  go_wp2
  go_loopw [12] (fun r wr => r = .int .i64 0 ∧ wr = w1) (fun r _ => 0)
  case atStart => exact ⟨rfl, rfl⟩
  case round =>
   obtain ⟨rfl, rfl⟩ := hrel
   obtain ⟨z1, z2⟩ := HF.out
   go_wp2
   go_ret
   exact ⟨none, 0, by rw [z1]; rfl, by rw [z1]; exact Nat.zero_le _, ⟨fun _ => False, fun j x hx => by rw [z2] at hx; simp at hx, fun b hb => hb.elim⟩, Only.refl _ _⟩
 ·have HI0 : Hid (CeI w w1 S d false 41 l G 0) := by
   refine ⟨us, fun _ => False, HN.out.2.2, hr1, o1, hG, fun b hb => hb.elim, HT.out.2.1, fun k x hx => ?_⟩
   obtain ⟨u, p1, p2⟩ := HT.out.1 k x hx
   exact ⟨u, p1, fun g => by omega, fun _ => p2.only o1 (fun _ _ g => g)⟩
  obtain ⟨K, hK⟩ : ∃ K, K = us.length := ⟨_, rfl⟩
  rw [← hK]
  have HK : Hid (K = N) := by rw [hK]; exact HN.out.2.2.trans HN.out.1.symm
  obtain rfl : K = N := HK.out
  clear hr1 o1 hG HA hK HK
  go_wp2
  go_loopw [12] (fun r wr => ∃ j : Nat, r = .int .i64 (j : Int) ∧ j ≤ K ∧ Hid (CeI w wr S d false 41 l G j)) (fun r _ => K - vuOf r)
  case atStart => exact ⟨0, rfl, Nat.zero_le _, HI0.out⟩
  case round =>
   obtain ⟨j, rfl, hj, HI⟩ := hrel
   obtain ⟨w2, hw2⟩ : ∃ w2, w2 = wr := ⟨_, rfl⟩
   rw [← hw2] at HI ⊢
   clear hw2
   have hNl := HN.out.1
   by_cases hjN : j < K
   ·obtain ⟨x, hx⟩ : ∃ x, l[j]? = some x := ⟨l[j]'(by omega), List.getElem?_eq_getElem (by omega)⟩
    obtain ⟨vs, S', q1, q2, q3, q4, q5, q6, q7⟩ := HI.out
    obtain ⟨u, p1, _, p3⟩ := q7 j x hx
    have hcell : w2.cell? ⟨G, j, none⟩ = some u := by
     rw [cell_of_row _ _ _ _ _ _ q2]
     simpa using p1
    have HC : Hid _ := H x u w2 S (p3 (Nat.le_refl _)) (HT.out.2.2.2 x (List.mem_of_getElem? hx)) (fun b g => Nat.lt_of_lt_of_le (HT.out.2.2.1 b g) q3.size)
    have HX : Hid (j < K ∧ l[j]? = some x) := ⟨hjN, hx⟩
    have i1 : (j : Int) < (K : Int) := by omega
    have i0 : (0 : Int) ≤ (j : Int) := by omega
    have i4 : j ≤ 1048576 := by have := HN.out.2.1; omega
    clear q1 q2 q3 q4 q5 q6 q7 p1 p3 hx hNl hjN hj
    go_wp2_with fail
    refine (show Calls Tryz.prog 49 _ _ _ from HC.out).mono ?_
    rintro e w3 ⟨v', rfl, G3⟩
    have HI2 : Hid (CeI w (w3.setCell ⟨G, j, none⟩ v') S d false 41 l G (j + 1)) := HI.out.step HT.out.2.2.1 HX.out.2 G3.out.1 G3.out.2
    have hone : v'.oneCell' = true := by obtain ⟨_, t, _⟩ := G3.out.1; exact t.one
    have hc3 : w3.cell? ⟨G, j, none⟩ = some u := G3.out.2.cell hcell (fun g => g)
    have hf3 : w3.frozen? ⟨G, j, none⟩ = false := by
     obtain ⟨vs, S', q1, q2, _⟩ := HI.out
     exact frozen_of_row _ _ _ _ _ ((G3.out.2.block G (Array.getElem?_eq_some_iff.1 q2).1 (fun g => g)).trans q2)
    have HJ : Hid (j < K) := HX.out.1
    have hform : v' = .nilIface ∨ ∃ T y, v' = .iface T y := by obtain ⟨_, t, _⟩ := G3.out.1; exact t.shape2
    clear HC HX HI G3 hcell hone
    rcases hform with rfl | ⟨T, y, rfl⟩
    all_goals
     go_wp2
     go_roundw
     case rel => exact ⟨j + 1, by go_num, by have := HJ.out; omega, HI2⟩
     case measure => simp only [vuOf]; have := HJ.out; omega
   ·obtain rfl : j = K := by omega
    have i1 : ¬ (j : Int) < (j : Int) := by omega
    clear hNl hjN hj
    go_wp2
    go_ret
    refine ⟨some ⟨G, 0, none⟩, j, rfl, by rw [HN.out.1]; exact Nat.le_refl _, ?_, ?_⟩
    ·obtain ⟨vs, S', q1, q2, q3, q4, q5, q6, q7⟩ := HI.out
     refine ⟨fun b => S' b ∨ b = G, fun k x hx => ?_, fun b hb => ?_⟩
     ·obtain ⟨u, p1, p2, _⟩ := q7 k x hx
      have hk := (List.getElem?_eq_some_iff.1 hx).1
      refine ⟨G, 0, u, rfl, .inr rfl, ?_, (p2 (by rw [HN.out.1]; exact hk)).step (fun _ g => .inl g) (fun _ _ _ g => g) (Nat.le_refl _)⟩
      rw [Nat.zero_add, cell_of_row _ _ _ _ _ _ q2]
      simpa using p1
     ·rcases hb with g | rfl
      ·exact ⟨(q5 b g).1, (q5 b g).2.1⟩
      ·exact ⟨q4, Liv.of q2⟩
    ·obtain ⟨vs, S', q1, q2, q3, _⟩ := HI.out
     exact q3
theorem anew_i (us : List Value) (h1 : ∀ u ∈ us, u.oneCell' = true) (ao : Option Addr) (cap : Nat) (w : World) (hn : us.length ≤ 1048576) (hnil : ao = none → us = []) (hc : ∀ a, ao = some a → ∀ j u, us[j]? = some u → w.cell? (a.add j) = some u) : Calls Tryz.prog 106 #[.slice ao us.length cap] w fun e w' => AnP 97 us w e w' := by
 cases ao with
 | none =>
   have e0 := hnil rfl
   subst e0
   have heq : (binOp .eql 64 (.slice none 0 cap) (.slice none 0 0)).run Tryz.prog w = .ok (.bool true) w := Go.Lib.run_eql_slice_nil w _ _ none 0 cap 0 0 Tryz.underlying64
   have HP : Hid (∀ e, e = .returned (.slice none 0 0) → AnP 97 [] w e w) := fun e he => .inl ⟨rfl, he, rfl⟩
   clear h1 hn hnil hc
   go_enter Tryz.func106, Tryz.ntmps106
   go_wp2
   go_ret
   exact HP.out _ rfl
 | some a =>
   obtain ⟨M, hM, hmk0⟩ := mk_row Tryz.underlying64 vinfoI us.length hn
   have hmk := hmk0 w
   obtain ⟨W, hW⟩ : ∃ W, W = w.alloc (.cells M 97) := ⟨_, rfl⟩
   have o1 : Only (fun _ => False) w W := by rw [hW]; exact (Only.refl _ w).alloc _
   have hgW : W.heap[w.heap.size]? = some (.cells M 97) := by rw [hW]; exact heap_alloc_new w _
   have hap : ∀ ty, _ := ap_row Tryz.underlying64 vinfoI (W := W) (cap := cap) rfl (fun j u hu => o1.cell (hc a rfl j u hu) (fun g => g)) h1 hgW hM
   obtain ⟨N, hN⟩ : ∃ N, N = us.length := ⟨_, rfl⟩
   have HP : Hid (AnP 97 us w (.returned (.slice (some ⟨w.heap.size, 0, none⟩) N N)) (W.setRow w.heap.size us.toArray)) := by
    refine .inr ⟨w.heap.size, by rw [hN], Nat.le_refl _, setRow_heap W _ M _ _ _ hgW, o1.trans setRow_only (fun b hb e => by omega)⟩
   obtain ⟨U, hU⟩ : ∃ U, U = W.setRow w.heap.size us.toArray := ⟨_, rfl⟩
   rw [← hN, ← hU] at hap
   rw [← hU] at HP
   rw [← hN, ← hW] at hmk
   have HR : Hid _ := hap
   have heq : (binOp .eql 64 (.slice (some a) N cap) (.slice none 0 0)).run Tryz.prog w = .ok (.bool false) w := Go.Lib.run_eql_slice_nil w _ _ (some a) N cap 0 0 Tryz.underlying64
   have i1 : N ≤ 1048576 := by omega
   rw [← hN]
   clear h1 hn hnil hc hM hmk0 hW o1 hgW hap hN hU
   go_enter Tryz.func106, Tryz.ntmps106
   go_wp2_with (at_builtin; refine vwpList_append_run rfl _ _ 64 rfl _ _ _ rfl rfl HR.out ?_)
   go_ret
   exact HP.out
theorem ce_i (d : Nat) (H : CpC d true 79) : CeC d true 79 78 := by
 intro l ao cap w S hl hS hsm hlen hnil
 obtain ⟨us, u1, u2, u3, u4⟩ := ps_row hl
 have HA : Hid (Calls Tryz.prog 106 #[.slice ao us.length cap] w fun e w' => AnP 97 us w e w') := anew_i us u2 ao cap w (by omega) (fun e => List.length_eq_zero_iff.1 (by rw [u1, hnil e]; rfl)) u3
 obtain ⟨N, hN⟩ : ∃ N, N = l.length := ⟨_, rfl⟩
 have HN : Hid (N = l.length ∧ N ≤ 1048576 ∧ us.length = l.length) := ⟨hN, by omega, u1⟩
 rw [u1, ← hN] at HA
 rw [← hN]
 have HT : Hid ((∀ (j : Nat) (x : Vt), l[j]? = some x → ∃ u, us[j]? = some u ∧ TiAt w S d true x u) ∧ (∀ u ∈ us, u.oneCell' = true) ∧ (∀ b, S b → b < w.heap.size) ∧ ∀ x ∈ l, ∃ e, SmT e x) := ⟨u4, u2, hS, hsm⟩
 clear hl hS hsm hlen hnil u1 u2 u3 u4 hN
 go_enter Tryz.func78, Tryz.ntmps78
 go_wp2_with fail
 refine (show Calls Tryz.prog 106 _ _ _ from HA.out).mono ?_
 intro e w1 g1
 rcases g1 with ⟨e0, rfl, rfl⟩ | ⟨G, rfl, hG, hr1, o1⟩
 ·have hz : N = 0 := by rw [HN.out.1, ← HN.out.2.2, e0]; rfl
  have HF : Hid (N = 0 ∧ l = []) := ⟨hz, List.length_eq_zero_iff.1 (by rw [← HN.out.1]; exact hz)⟩
  clear HA hz e0
  go_wp2
  go_loopw [12] (fun r wr => r = .int .i64 0 ∧ wr = w1) (fun r _ => 0)
  case atStart => exact ⟨rfl, rfl⟩
  case round =>
   obtain ⟨rfl, rfl⟩ := hrel
   obtain ⟨z1, z2⟩ := HF.out
   go_wp2
   go_ret
   exact ⟨none, 0, by rw [z1]; rfl, by rw [z1]; exact Nat.zero_le _, ⟨fun _ => False, fun j x hx => by rw [z2] at hx; simp at hx, fun b hb => hb.elim⟩, Only.refl _ _⟩
 ·have HI0 : Hid (CeI w w1 S d true 97 l G 0) := by
   refine ⟨us, fun _ => False, HN.out.2.2, hr1, o1, hG, fun b hb => hb.elim, HT.out.2.1, fun k x hx => ?_⟩
   obtain ⟨u, p1, p2⟩ := HT.out.1 k x hx
   exact ⟨u, p1, fun g => by omega, fun _ => p2.only o1 (fun _ _ g => g)⟩
  obtain ⟨K, hK⟩ : ∃ K, K = us.length := ⟨_, rfl⟩
  rw [← hK]
  have HK : Hid (K = N) := by rw [hK]; exact HN.out.2.2.trans HN.out.1.symm
  obtain rfl : K = N := HK.out
  clear hr1 o1 hG HA hK HK
  go_wp2
  go_loopw [12] (fun r wr => ∃ j : Nat, r = .int .i64 (j : Int) ∧ j ≤ K ∧ Hid (CeI w wr S d true 97 l G j)) (fun r _ => K - vuOf r)
  case atStart => exact ⟨0, rfl, Nat.zero_le _, HI0.out⟩
  case round =>
   obtain ⟨j, rfl, hj, HI⟩ := hrel
   obtain ⟨w2, hw2⟩ : ∃ w2, w2 = wr := ⟨_, rfl⟩
   rw [← hw2] at HI ⊢
   clear hw2
   have hNl := HN.out.1
   by_cases hjN : j < K
   ·obtain ⟨x, hx⟩ : ∃ x, l[j]? = some x := ⟨l[j]'(by omega), List.getElem?_eq_getElem (by omega)⟩
    obtain ⟨vs, S', q1, q2, q3, q4, q5, q6, q7⟩ := HI.out
    obtain ⟨u, p1, _, p3⟩ := q7 j x hx
    have hcell : w2.cell? ⟨G, j, none⟩ = some u := by
     rw [cell_of_row _ _ _ _ _ _ q2]
     simpa using p1
    have HC : Hid _ := H x u w2 S (p3 (Nat.le_refl _)) (HT.out.2.2.2 x (List.mem_of_getElem? hx)) (fun b g => Nat.lt_of_lt_of_le (HT.out.2.2.1 b g) q3.size)
    have HX : Hid (j < K ∧ l[j]? = some x) := ⟨hjN, hx⟩
    have i1 : (j : Int) < (K : Int) := by omega
    have i0 : (0 : Int) ≤ (j : Int) := by omega
    have i4 : j ≤ 1048576 := by have := HN.out.2.1; omega
    clear q1 q2 q3 q4 q5 q6 q7 p1 p3 hx hNl hjN hj
    go_wp2_with fail
    refine (show Calls Tryz.prog 79 _ _ _ from HC.out).mono ?_
    rintro e w3 ⟨v', rfl, G3⟩
    have HI2 : Hid (CeI w (w3.setCell ⟨G, j, none⟩ v') S d true 97 l G (j + 1)) := HI.out.step HT.out.2.2.1 HX.out.2 G3.out.1 G3.out.2
    have hone : v'.oneCell' = true := by obtain ⟨_, t, _⟩ := G3.out.1; exact t.one
    have hc3 : w3.cell? ⟨G, j, none⟩ = some u := G3.out.2.cell hcell (fun g => g)
    have hf3 : w3.frozen? ⟨G, j, none⟩ = false := by
     obtain ⟨vs, S', q1, q2, _⟩ := HI.out
     exact frozen_of_row _ _ _ _ _ ((G3.out.2.block G (Array.getElem?_eq_some_iff.1 q2).1 (fun g => g)).trans q2)
    have HJ : Hid (j < K) := HX.out.1
    have hform : v' = .nilIface ∨ ∃ T y, v' = .iface T y := by obtain ⟨_, t, _⟩ := G3.out.1; exact t.shape2
    clear HC HX HI G3 hcell hone
    rcases hform with rfl | ⟨T, y, rfl⟩
    all_goals
     go_wp2
     go_roundw
     case rel => exact ⟨j + 1, by go_num, by have := HJ.out; omega, HI2⟩
     case measure => simp only [vuOf]; have := HJ.out; omega
   ·obtain rfl : j = K := by omega
    have i1 : ¬ (j : Int) < (j : Int) := by omega
    clear hNl hjN hj
    go_wp2
    go_ret
    refine ⟨some ⟨G, 0, none⟩, j, rfl, by rw [HN.out.1]; exact Nat.le_refl _, ?_, ?_⟩
    ·obtain ⟨vs, S', q1, q2, q3, q4, q5, q6, q7⟩ := HI.out
     refine ⟨fun b => S' b ∨ b = G, fun k x hx => ?_, fun b hb => ?_⟩
     ·obtain ⟨u, p1, p2, _⟩ := q7 k x hx
      have hk := (List.getElem?_eq_some_iff.1 hx).1
      refine ⟨G, 0, u, rfl, .inr rfl, ?_, (p2 (by rw [HN.out.1]; exact hk)).step (fun _ g => .inl g) (fun _ _ _ g => g) (Nat.le_refl _)⟩
      rw [Nat.zero_add, cell_of_row _ _ _ _ _ _ q2]
      simpa using p1
     ·rcases hb with g | rfl
      ·exact ⟨(q5 b g).1, (q5 b g).2.1⟩
      ·exact ⟨q4, Liv.of q2⟩
    ·obtain ⟨vs, S', q1, q2, q3, _⟩ := HI.out
     exact q3
end Go.Proofs.YtenjollhlgjjdaaGreatDoor
namespace Go.Proofs
open Go.Shelf
def Tryz.growV_ren : Go.Shelf.Ren := ⟨fun | 4 => 34 | n => n, fun | 22 => 25 | 25 => 41 | 3 => 3 | 4 => 4 | 9 => 9 | 20 => 20 | 0 => 0 | n => n, fun | n => n⟩
theorem Tryz.growV : Go.Proofs.Lays8.n4 Tryz.prog Tryz.growV_ren := {
 mixed := by kernel_rfl
 f4 := ⟨Tryz.f34.name, by decide, Tryz.func34.trans (congrArg some (by kernel_rfl))⟩
 t0 := Tryz.underlying0
 a0 := Tryz.isAgg0
 z0 := Tryz.sizeOf0
 v0 := Tryz.zeroValue0
 t3 := Tryz.underlying3
 a3 := Tryz.isAgg3
 z3 := Tryz.sizeOf3
 v3 := Tryz.zeroValue3
 t4 := Tryz.underlying4
 a4 := Tryz.isAgg4
 z4 := Tryz.sizeOf4
 v4 := Tryz.zeroValue4
 t9 := Tryz.underlying9
 a9 := Tryz.isAgg9
 z9 := Tryz.sizeOf9
 v9 := Tryz.zeroValue9
 t20 := Tryz.underlying20
 a20 := Tryz.isAgg20
 z20 := Tryz.sizeOf20
 v20 := Tryz.zeroValue20
 t22 := Tryz.underlying25
 a22 := Tryz.isAgg25
 z22 := Tryz.sizeOf25
 v22 := Tryz.zeroValue25 }
def Tryz.growI_ren : Go.Shelf.Ren := ⟨fun | 4 => 110 | n => n, fun | 22 => 64 | 25 => 97 | 3 => 3 | 4 => 4 | 9 => 9 | 20 => 20 | 0 => 0 | n => n, fun | n => n⟩
theorem Tryz.growI : Go.Proofs.Lays8.n4 Tryz.prog Tryz.growI_ren := {
 mixed := by kernel_rfl
 f4 := ⟨Tryz.f110.name, by decide, Tryz.func110.trans (congrArg some (by kernel_rfl))⟩
 t0 := Tryz.underlying0
 a0 := Tryz.isAgg0
 z0 := Tryz.sizeOf0
 v0 := Tryz.zeroValue0
 t3 := Tryz.underlying3
 a3 := Tryz.isAgg3
 z3 := Tryz.sizeOf3
 v3 := Tryz.zeroValue3
 t4 := Tryz.underlying4
 a4 := Tryz.isAgg4
 z4 := Tryz.sizeOf4
 v4 := Tryz.zeroValue4
 t9 := Tryz.underlying9
 a9 := Tryz.isAgg9
 z9 := Tryz.sizeOf9
 v9 := Tryz.zeroValue9
 t20 := Tryz.underlying20
 a20 := Tryz.isAgg20
 z20 := Tryz.sizeOf20
 v20 := Tryz.zeroValue20
 t22 := Tryz.underlying64
 a22 := Tryz.isAgg64
 z22 := Tryz.sizeOf64
 v22 := Tryz.zeroValue64 }
end Go.Proofs
namespace Go.Proofs.YtenjollhlgjjdaaGreatDoor
open Go.RowKit Go.Lib
theorem src_of {sT eT : TypeId} (hT : Tryz.prog.underlying sT = some (.slice eT)) {W : World} {n c : Nat} {a : Option Addr} {us : List Value} (hl : us.length = n) (hnil : a = none → us = []) (hu : ∀ ad, a = some ad → ∀ j u, us[j]? = some u → W.cell? (ad.add j) = some u) (h1 : ∀ u ∈ us, u.oneCell' = true) : Src Tryz.prog 1 sT (.slice a n c) n us W := by
 cases a with
 | none =>
   have e := hnil rfl
   subst e
   obtain rfl : n = 0 := by simpa using hl.symm
   exact Src.ofNil W hT c
 | some ad => exact Src.ofSlice W hT ad n c us (by omega) (hu ad rfl) h1
theorem ap_at {sT eT : TypeId} (hT : Tryz.prog.underlying sT = some (.slice eT)) (hI : (Tryz.prog.info? eT).map (fun i => (i.zero, i.size, i.bytes)) = some (some .nilIface, 1, 16)) {W : World} {g m n cap c : Nat} {a : Option Addr} {us : List Value} {cur : Array Value} (hl : us.length = n) (hnil : a = none → us = []) (hu : ∀ ad, a = some ad → ∀ j u, us[j]? = some u → W.cell? (ad.add j) = some u) (h1 : ∀ u ∈ us, u.oneCell' = true) (hg : W.heap[g]? = some (.cells cur eT)) (hr : m + n ≤ cap) (hc : cur.size = cap) (ty : TypeId) :
  (Builtin.append_ #[sT, sT] ty #[.slice (some ⟨g, 0, none⟩) m cap, .slice a n c]).run Tryz.prog W = .ok (.slice (some ⟨g, 0, none⟩) (m + n) cap) (W.setRow g (cur.toList.take m ++ us ++ cur.toList.drop (m + us.length)).toArray) := by
 obtain ⟨i0, hi, hz0, hz1, hz2⟩ := vinfo_parts hI
 have hs : Src Tryz.prog 1 sT (.slice a n c) n us W := src_of hT hl hnil hu h1
 have hst := run_storeCells_at Tryz.prog g m eT us 0 cur W hg (by omega) h1
 simp only [Nat.add_zero, Nat.zero_add] at hst
 rcases hs.kind with ⟨e', hk⟩ | hk <;> simp [Builtin.append_, run_underlying hT, run_underlying hk, sizeOf, typeInfo, hi, hs.len, hr, hs.cells, Addr.add_lit, hz1, hst]
theorem ap_none {sT eT : TypeId} (hT : Tryz.prog.underlying sT = some (.slice eT)) (hI : (Tryz.prog.info? eT).map (fun i => (i.zero, i.size, i.bytes)) = some (some .nilIface, 1, 16)) {W : World} {c : Nat} {a : Option Addr} (ty : TypeId) :
  (Builtin.append_ #[sT, sT] ty #[.slice none 0 0, .slice a 0 c]).run Tryz.prog W = .ok (.slice none 0 0) W := by
 obtain ⟨i0, hi, hz0, hz1, hz2⟩ := vinfo_parts hI
 have hs : Src Tryz.prog 1 sT (.slice a 0 c) 0 [] W := src_of hT rfl (fun _ => rfl) (fun ad _ j u hu => by simp at hu) (fun u hu => by cases hu)
 rcases hs.kind with ⟨e', hk⟩ | hk <;> simp [Builtin.append_, run_underlying hT, run_underlying hk, sizeOf, typeInfo, hi, hs.len, hs.cells, hz1]
def CcP (T : TypeId) (us : List Value) (w : World) (e : Ending) (w' : World) : Prop := ∃ v, e = .returned v ∧ (∃ ao cap, v = .slice ao us.length cap) ∧ w'.ownsRow w.heap.size T 1 v us.length us ∧ Only (fun _ => False) w w'
def CcSValue (us1 us2 : List Value) (a1 a2 : Option Addr) (c1 c2 : Nat) (w : World) : Prop := ∃ V0 V1 V2 W0 W1 W2, Calls Tryz.prog 34 #[.slice none 0 0, .int .i64 ((us1.length : Int) + (us2.length : Int))] w (fun e w' => e = .returned V0 ∧ w' = W0) ∧
 (∀ ty, (Builtin.append_ #[25, 25] ty #[V0, .slice a1 us1.length c1]).run Tryz.prog W0 = .ok V1 W1) ∧ (∀ ty, (Builtin.append_ #[25, 25] ty #[V1, .slice a2 us2.length c2]).run Tryz.prog W1 = .ok V2 W2) ∧
 Only (fun _ => False) w W0 ∧ Only (fun _ => False) w W1 ∧ CcP 41 (us1 ++ us2) w (.returned V2) W2
theorem cc_stepsValue (us1 us2 : List Value) (a1 a2 : Option Addr) (c1 c2 : Nat) (w : World) (h1 : ∀ u ∈ us1, u.oneCell' = true) (h2 : ∀ u ∈ us2, u.oneCell' = true) (hn1 : us1.length ≤ 1048576) (hn2 : us2.length ≤ 1048576) (hc1 : ∀ ad, a1 = some ad → ∀ j u, us1[j]? = some u → w.cell? (ad.add j) = some u) (hc2 : ∀ ad, a2 = some ad → ∀ j u, us2[j]? = some u → w.cell? (ad.add j) = some u) (hl1 : a1 = none → us1 = []) (hl2 : a2 = none → us2 = []) : CcSValue us1 us2 a1 a2 c1 c2 w := by
 obtain ⟨i0, hi0, hz0, hz1, hz2⟩ := vinfo_parts vinfoV
 by_cases hz : us1.length + us2.length = 0
 ·have e1 : us1 = [] := List.length_eq_zero_iff.1 (by omega)
  have e2 : us2 = [] := List.length_eq_zero_iff.1 (by omega)
  subst e1
  subst e2
  refine ⟨.slice none 0 0, .slice none 0 0, .slice none 0 0, w, w, w, ?_, fun ty => ap_none Tryz.underlying25 vinfoV ty, fun ty => ap_none Tryz.underlying25 vinfoV ty, Only.refl _ _, Only.refl _ _, ⟨_, rfl, ⟨_, _, rfl⟩, ⟨rfl, .inl ⟨rfl, rfl⟩⟩, Only.refl _ _⟩⟩
  exact Any8.slices_Grow_room Tryz.growV none 0 0 0 w (by omega) (by omega) (by omega) (by omega)
 ·obtain ⟨n, hn⟩ : ∃ n, n = us1.length + us2.length := ⟨_, rfl⟩
  have hgr := Any8.slices_Grow_grow Tryz.growV i0 .nilIface hi0 hz0 (by omega) none 0 0 n [] w (by omega) (by omega) (by rw [hz2]; omega) (by omega) (by simp) (fun _ => rfl) (fun a ha => by cases ha)
  have hcap : n ≤ grownCap w (0 + n) 0 (Tryz.growV_ren.t 25) := by have := grownCap_ge w (0 + n) 0 (Tryz.growV_ren.t 25); omega
  have hmax := grownCap_le_maxLen w (0 + n) 0 (Tryz.growV_ren.t 25) (by unfold maxLen; omega)
  obtain ⟨cap, hcp⟩ : ∃ cap, cap = grownCap w (0 + n) 0 (Tryz.growV_ren.t 25) := ⟨_, rfl⟩
  obtain ⟨cur, hcur⟩ : ∃ cur : Array Value, cur = ([] : List Value).toArray ++ Builtin.zeroCells (Value.nilIface).cells (0 + n - 0) ++ Builtin.zeroCells (Value.nilIface).cells (grownCap w (0 + n) 0 (Tryz.growV_ren.t 25) - (0 + n)) := ⟨_, rfl⟩
  have hcs : cur.size = cap := by
   rw [hcur, hcp]
   have e1 : (Value.nilIface).cells.size = 1 := rfl
   simp only [Array.size_append, size_zeroCells, e1, List.size_toArray, List.length_nil]
   omega
  rw [← hcur] at hgr
  rw [← hcp] at hgr hcap hmax
  obtain ⟨W0, hW0⟩ : ∃ W0, W0 = w.drew.alloc (.cells cur 41) := ⟨_, rfl⟩
  have hb0 : W0.heap[w.heap.size]? = some (.cells cur 41) := by rw [hW0]; exact heap_alloc_new w.drew _
  have o0 : Only (fun _ => False) w W0 := by rw [hW0]; exact (Only.refl _ w).drew.alloc _
  have hap0 := fun ty => ap_at Tryz.underlying25 vinfoV (W := W0) (g := w.heap.size) (m := 0) (n := us1.length) (cap := cap) (c := c1) (a := a1) (us := us1) (cur := cur) rfl hl1 (fun ad e j u hu => o0.cell (hc1 ad e j u hu) (fun g => g)) h1 hb0 (by omega) hcs ty
  obtain ⟨cu1, hcu1⟩ : ∃ cu1, cu1 = (cur.toList.take 0 ++ us1 ++ cur.toList.drop (0 + us1.length)).toArray := ⟨_, rfl⟩
  have hcs1 : cu1.size = cap := by
   rw [hcu1]
   simp only [List.size_toArray, List.length_append, List.length_take, List.length_drop, Array.length_toList, hcs]
   omega
  have ht1 : cu1.toList.take us1.length = us1 := by
   rw [hcu1]
   simp
  rw [← hcu1] at hap0
  have hb1 : (W0.setRow w.heap.size cu1).heap[w.heap.size]? = some (.cells cu1 41) := setRow_heap W0 _ cur _ _ _ hb0
  have o1 : Only (fun _ => False) w (W0.setRow w.heap.size cu1) := o0.trans setRow_only (fun b hb e => by omega)
  have hap1 := fun ty => ap_at Tryz.underlying25 vinfoV (W := W0.setRow w.heap.size cu1) (g := w.heap.size) (m := 0 + us1.length) (n := us2.length) (cap := cap) (c := c2) (a := a2) (us := us2) (cur := cu1) rfl hl2 (fun ad e j u hu => o1.cell (hc2 ad e j u hu) (fun g => g)) h2 hb1 (by omega) hcs1 ty
  obtain ⟨cu2, hcu2⟩ : ∃ cu2, cu2 = (cu1.toList.take (0 + us1.length) ++ us2 ++ cu1.toList.drop (0 + us1.length + us2.length)).toArray := ⟨_, rfl⟩
  have hcs2 : cu2.size = cap := by
   rw [hcu2]
   simp only [List.size_toArray, List.length_append, List.length_take, List.length_drop, Array.length_toList, hcs1]
   omega
  have ht2 : cu2.toList.take ((us1 ++ us2).length * 1) = us1 ++ us2 := by
   rw [hcu2, Nat.zero_add, ht1, Nat.mul_one]
   exact List.take_left
  rw [← hcu2] at hap1
  have hb2 : ((W0.setRow w.heap.size cu1).setRow w.heap.size cu2).heap[w.heap.size]? = some (.cells cu2 41) := setRow_heap _ _ cu1 _ _ _ hb1
  have o2 : Only (fun _ => False) w ((W0.setRow w.heap.size cu1).setRow w.heap.size cu2) := o1.trans setRow_only (fun b hb e => by omega)
  have e12 : 0 + us1.length + us2.length = (us1 ++ us2).length := by simp
  refine ⟨_, _, _, _, _, _, ?_, hap0, hap1, o0, o1, ⟨_, rfl, ⟨_, _, by rw [e12]⟩, ⟨by simp, .inr ⟨w.heap.size, cap, cu2, by rw [e12], Nat.le_refl _, hb2, by rw [← e12]; omega, hmax, by omega, ht2⟩⟩, o2⟩⟩
  rw [show ((us1.length : Int) + (us2.length : Int)) = ((n : Nat) : Int) by omega, hW0]
  exact hgr
theorem concat_Value (us1 us2 : List Value) (a1 a2 : Option Addr) (c1 c2 R : Nat) (w : World) (h1 : ∀ u ∈ us1, u.oneCell' = true) (h2 : ∀ u ∈ us2, u.oneCell' = true) (hn1 : us1.length ≤ 1048576) (hn2 : us2.length ≤ 1048576) (hc1 : ∀ ad, a1 = some ad → ∀ j u, us1[j]? = some u → w.cell? (ad.add j) = some u) (hc2 : ∀ ad, a2 = some ad → ∀ j u, us2[j]? = some u → w.cell? (ad.add j) = some u) (hl1 : a1 = none → us1 = []) (hl2 : a2 = none → us2 = [])
  (hR0 : w.cell? ⟨R, 0, none⟩ = some (.slice a1 us1.length c1)) (hR1 : w.cell? ⟨R, 1, none⟩ = some (.slice a2 us2.length c2)) : Calls Tryz.prog 17 #[.slice (some ⟨R, 0, none⟩) 2 2] w fun e w' => CcP 41 (us1 ++ us2) w e w' := by
 obtain ⟨V0, V1, V2, W0, W1, W2, hg, hp0, hp1, o0, o1, hP⟩ := cc_stepsValue us1 us2 a1 a2 c1 c2 w h1 h2 hn1 hn2 hc1 hc2 hl1 hl2
 have HG : Hid _ := hg
 have HQ0 : Hid _ := hp0
 have HQ1 : Hid _ := hp1
 have HP : Hid (CcP 41 (us1 ++ us2) w (.returned V2) W2) := hP
 have HO : Hid (Only (fun _ => False) w W0 ∧ Only (fun _ => False) w W1) := ⟨o0, o1⟩
 obtain ⟨n1, e1⟩ : ∃ n, n = us1.length := ⟨_, rfl⟩
 obtain ⟨n2, e2⟩ : ∃ n, n = us2.length := ⟨_, rfl⟩
 rw [← e1] at HG HQ0 hR0 hn1
 rw [← e2] at HG HQ1 hR1 hn2
 have s2 : ¬ ((n1 : Int) < 0) := by omega
 have s3 : ¬ ((n1 : Int) + (n2 : Int) < 0) := by omega
 have r00 := hR0
 have r01 := hR1
 have k00 := o0.cell hR0 (fun g => g)
 have k01 := o1.cell hR1 (fun g => g)
 clear h1 h2 hc1 hc2 hl1 hl2 hg hp0 hp1 hP o0 o1 e1 e2 HO
 go_enter Tryz.func17, Tryz.ntmps17
 go_wp2
 go_loopw [11, 3] (fun r x wr => wr = w ∧ ((r = .int .i64 0 ∧ x = .int .i64 0) ∨ (r = .int .i64 1 ∧ x = .int .i64 (n1 : Int)) ∨ (r = .int .i64 2 ∧ x = .int .i64 ((n1 : Int) + (n2 : Int))))) (fun r _ _ => 2 - vuOf r)
 case atStart => exact ⟨rfl, .inl ⟨rfl, rfl⟩⟩
 case round =>
  obtain ⟨rfl, hr⟩ := hrel
  rcases hr with ⟨rfl, rfl⟩ | ⟨rfl, rfl⟩ | ⟨rfl, rfl⟩
  ·go_wp2
   go_roundw
   case rel => exact ⟨trivial, .inr (.inl ⟨rfl, by go_num⟩)⟩
   case measure => decide
  ·go_wp2
   go_roundw
   case rel => exact ⟨trivial, .inr (.inr ⟨rfl, by first | rfl | go_num⟩)⟩
   case measure => decide
  ·go_wp2_with fail
   refine (show Calls Tryz.prog 34 _ _ _ from HG.out).mono ?_
   rintro e w2 ⟨rfl, hw2⟩
   obtain rfl := hw2.symm
   clear HG
   go_wp2
   go_loopw [27, 6] (fun r x wr => (r = .int .i64 0 ∧ x = V0 ∧ wr = W0) ∨ (r = .int .i64 1 ∧ x = V1 ∧ wr = W1) ∨ (r = .int .i64 2 ∧ x = V2 ∧ wr = W2)) (fun r _ _ => 2 - vuOf r)
   case atStart => exact .inl ⟨rfl, rfl, rfl⟩
   case round =>
    rcases hrel with ⟨rfl, rfl, hw⟩ | ⟨rfl, rfl, hw⟩ | ⟨rfl, rfl, hw⟩
    ·obtain rfl := hw.symm
     go_wp2_with (at_builtin; refine vwpList_append_run rfl _ _ 25 rfl _ _ _ rfl rfl HQ0.out ?_)
     go_roundw
     case rel => exact .inr (.inl (by first | exact ⟨rfl, rfl, trivial⟩ | exact ⟨rfl, rfl, rfl⟩))
     case measure => decide
    ·obtain rfl := hw.symm
     go_wp2_with (at_builtin; refine vwpList_append_run rfl _ _ 25 rfl _ _ _ rfl rfl HQ1.out ?_)
     go_roundw
     case rel => exact .inr (.inr (by first | exact ⟨rfl, rfl, trivial⟩ | exact ⟨rfl, rfl, rfl⟩))
     case measure => decide
    ·obtain rfl := hw.symm
     go_wp2
     go_ret
     exact HP.out
def CcSItem (us1 us2 : List Value) (a1 a2 : Option Addr) (c1 c2 : Nat) (w : World) : Prop := ∃ V0 V1 V2 W0 W1 W2, Calls Tryz.prog 110 #[.slice none 0 0, .int .i64 ((us1.length : Int) + (us2.length : Int))] w (fun e w' => e = .returned V0 ∧ w' = W0) ∧
 (∀ ty, (Builtin.append_ #[64, 64] ty #[V0, .slice a1 us1.length c1]).run Tryz.prog W0 = .ok V1 W1) ∧ (∀ ty, (Builtin.append_ #[64, 64] ty #[V1, .slice a2 us2.length c2]).run Tryz.prog W1 = .ok V2 W2) ∧
 Only (fun _ => False) w W0 ∧ Only (fun _ => False) w W1 ∧ CcP 97 (us1 ++ us2) w (.returned V2) W2
theorem cc_stepsItem (us1 us2 : List Value) (a1 a2 : Option Addr) (c1 c2 : Nat) (w : World) (h1 : ∀ u ∈ us1, u.oneCell' = true) (h2 : ∀ u ∈ us2, u.oneCell' = true) (hn1 : us1.length ≤ 1048576) (hn2 : us2.length ≤ 1048576) (hc1 : ∀ ad, a1 = some ad → ∀ j u, us1[j]? = some u → w.cell? (ad.add j) = some u) (hc2 : ∀ ad, a2 = some ad → ∀ j u, us2[j]? = some u → w.cell? (ad.add j) = some u) (hl1 : a1 = none → us1 = []) (hl2 : a2 = none → us2 = []) : CcSItem us1 us2 a1 a2 c1 c2 w := by
 obtain ⟨i0, hi0, hz0, hz1, hz2⟩ := vinfo_parts vinfoI
 by_cases hz : us1.length + us2.length = 0
 ·have e1 : us1 = [] := List.length_eq_zero_iff.1 (by omega)
  have e2 : us2 = [] := List.length_eq_zero_iff.1 (by omega)
  subst e1
  subst e2
  refine ⟨.slice none 0 0, .slice none 0 0, .slice none 0 0, w, w, w, ?_, fun ty => ap_none Tryz.underlying64 vinfoI ty, fun ty => ap_none Tryz.underlying64 vinfoI ty, Only.refl _ _, Only.refl _ _, ⟨_, rfl, ⟨_, _, rfl⟩, ⟨rfl, .inl ⟨rfl, rfl⟩⟩, Only.refl _ _⟩⟩
  exact Any8.slices_Grow_room Tryz.growI none 0 0 0 w (by omega) (by omega) (by omega) (by omega)
 ·obtain ⟨n, hn⟩ : ∃ n, n = us1.length + us2.length := ⟨_, rfl⟩
  have hgr := Any8.slices_Grow_grow Tryz.growI i0 .nilIface hi0 hz0 (by omega) none 0 0 n [] w (by omega) (by omega) (by rw [hz2]; omega) (by omega) (by simp) (fun _ => rfl) (fun a ha => by cases ha)
  have hcap : n ≤ grownCap w (0 + n) 0 (Tryz.growI_ren.t 25) := by have := grownCap_ge w (0 + n) 0 (Tryz.growI_ren.t 25); omega
  have hmax := grownCap_le_maxLen w (0 + n) 0 (Tryz.growI_ren.t 25) (by unfold maxLen; omega)
  obtain ⟨cap, hcp⟩ : ∃ cap, cap = grownCap w (0 + n) 0 (Tryz.growI_ren.t 25) := ⟨_, rfl⟩
  obtain ⟨cur, hcur⟩ : ∃ cur : Array Value, cur = ([] : List Value).toArray ++ Builtin.zeroCells (Value.nilIface).cells (0 + n - 0) ++ Builtin.zeroCells (Value.nilIface).cells (grownCap w (0 + n) 0 (Tryz.growI_ren.t 25) - (0 + n)) := ⟨_, rfl⟩
  have hcs : cur.size = cap := by
   rw [hcur, hcp]
   have e1 : (Value.nilIface).cells.size = 1 := rfl
   simp only [Array.size_append, size_zeroCells, e1, List.size_toArray, List.length_nil]
   omega
  rw [← hcur] at hgr
  rw [← hcp] at hgr hcap hmax
  obtain ⟨W0, hW0⟩ : ∃ W0, W0 = w.drew.alloc (.cells cur 97) := ⟨_, rfl⟩
  have hb0 : W0.heap[w.heap.size]? = some (.cells cur 97) := by rw [hW0]; exact heap_alloc_new w.drew _
  have o0 : Only (fun _ => False) w W0 := by rw [hW0]; exact (Only.refl _ w).drew.alloc _
  have hap0 := fun ty => ap_at Tryz.underlying64 vinfoI (W := W0) (g := w.heap.size) (m := 0) (n := us1.length) (cap := cap) (c := c1) (a := a1) (us := us1) (cur := cur) rfl hl1 (fun ad e j u hu => o0.cell (hc1 ad e j u hu) (fun g => g)) h1 hb0 (by omega) hcs ty
  obtain ⟨cu1, hcu1⟩ : ∃ cu1, cu1 = (cur.toList.take 0 ++ us1 ++ cur.toList.drop (0 + us1.length)).toArray := ⟨_, rfl⟩
  have hcs1 : cu1.size = cap := by
   rw [hcu1]
   simp only [List.size_toArray, List.length_append, List.length_take, List.length_drop, Array.length_toList, hcs]
   omega
  have ht1 : cu1.toList.take us1.length = us1 := by
   rw [hcu1]
   simp
  rw [← hcu1] at hap0
  have hb1 : (W0.setRow w.heap.size cu1).heap[w.heap.size]? = some (.cells cu1 97) := setRow_heap W0 _ cur _ _ _ hb0
  have o1 : Only (fun _ => False) w (W0.setRow w.heap.size cu1) := o0.trans setRow_only (fun b hb e => by omega)
  have hap1 := fun ty => ap_at Tryz.underlying64 vinfoI (W := W0.setRow w.heap.size cu1) (g := w.heap.size) (m := 0 + us1.length) (n := us2.length) (cap := cap) (c := c2) (a := a2) (us := us2) (cur := cu1) rfl hl2 (fun ad e j u hu => o1.cell (hc2 ad e j u hu) (fun g => g)) h2 hb1 (by omega) hcs1 ty
  obtain ⟨cu2, hcu2⟩ : ∃ cu2, cu2 = (cu1.toList.take (0 + us1.length) ++ us2 ++ cu1.toList.drop (0 + us1.length + us2.length)).toArray := ⟨_, rfl⟩
  have hcs2 : cu2.size = cap := by
   rw [hcu2]
   simp only [List.size_toArray, List.length_append, List.length_take, List.length_drop, Array.length_toList, hcs1]
   omega
  have ht2 : cu2.toList.take ((us1 ++ us2).length * 1) = us1 ++ us2 := by
   rw [hcu2, Nat.zero_add, ht1, Nat.mul_one]
   exact List.take_left
  rw [← hcu2] at hap1
  have hb2 : ((W0.setRow w.heap.size cu1).setRow w.heap.size cu2).heap[w.heap.size]? = some (.cells cu2 97) := setRow_heap _ _ cu1 _ _ _ hb1
  have o2 : Only (fun _ => False) w ((W0.setRow w.heap.size cu1).setRow w.heap.size cu2) := o1.trans setRow_only (fun b hb e => by omega)
  have e12 : 0 + us1.length + us2.length = (us1 ++ us2).length := by simp
  refine ⟨_, _, _, _, _, _, ?_, hap0, hap1, o0, o1, ⟨_, rfl, ⟨_, _, by rw [e12]⟩, ⟨by simp, .inr ⟨w.heap.size, cap, cu2, by rw [e12], Nat.le_refl _, hb2, by rw [← e12]; omega, hmax, by omega, ht2⟩⟩, o2⟩⟩
  rw [show ((us1.length : Int) + (us2.length : Int)) = ((n : Nat) : Int) by omega, hW0]
  exact hgr
theorem concat_Item (us1 us2 : List Value) (a1 a2 : Option Addr) (c1 c2 R : Nat) (w : World) (h1 : ∀ u ∈ us1, u.oneCell' = true) (h2 : ∀ u ∈ us2, u.oneCell' = true) (hn1 : us1.length ≤ 1048576) (hn2 : us2.length ≤ 1048576) (hc1 : ∀ ad, a1 = some ad → ∀ j u, us1[j]? = some u → w.cell? (ad.add j) = some u) (hc2 : ∀ ad, a2 = some ad → ∀ j u, us2[j]? = some u → w.cell? (ad.add j) = some u) (hl1 : a1 = none → us1 = []) (hl2 : a2 = none → us2 = [])
  (hR0 : w.cell? ⟨R, 0, none⟩ = some (.slice a1 us1.length c1)) (hR1 : w.cell? ⟨R, 1, none⟩ = some (.slice a2 us2.length c2)) : Calls Tryz.prog 85 #[.slice (some ⟨R, 0, none⟩) 2 2] w fun e w' => CcP 97 (us1 ++ us2) w e w' := by
 obtain ⟨V0, V1, V2, W0, W1, W2, hg, hp0, hp1, o0, o1, hP⟩ := cc_stepsItem us1 us2 a1 a2 c1 c2 w h1 h2 hn1 hn2 hc1 hc2 hl1 hl2
 have HG : Hid _ := hg
 have HQ0 : Hid _ := hp0
 have HQ1 : Hid _ := hp1
 have HP : Hid (CcP 97 (us1 ++ us2) w (.returned V2) W2) := hP
 have HO : Hid (Only (fun _ => False) w W0 ∧ Only (fun _ => False) w W1) := ⟨o0, o1⟩
 obtain ⟨n1, e1⟩ : ∃ n, n = us1.length := ⟨_, rfl⟩
 obtain ⟨n2, e2⟩ : ∃ n, n = us2.length := ⟨_, rfl⟩
 rw [← e1] at HG HQ0 hR0 hn1
 rw [← e2] at HG HQ1 hR1 hn2
 have s2 : ¬ ((n1 : Int) < 0) := by omega
 have s3 : ¬ ((n1 : Int) + (n2 : Int) < 0) := by omega
 have r00 := hR0
 have r01 := hR1
 have k00 := o0.cell hR0 (fun g => g)
 have k01 := o1.cell hR1 (fun g => g)
 clear h1 h2 hc1 hc2 hl1 hl2 hg hp0 hp1 hP o0 o1 e1 e2 HO
 go_enter Tryz.func85, Tryz.ntmps85
 go_wp2
 go_loopw [11, 3] (fun r x wr => wr = w ∧ ((r = .int .i64 0 ∧ x = .int .i64 0) ∨ (r = .int .i64 1 ∧ x = .int .i64 (n1 : Int)) ∨ (r = .int .i64 2 ∧ x = .int .i64 ((n1 : Int) + (n2 : Int))))) (fun r _ _ => 2 - vuOf r)
 case atStart => exact ⟨rfl, .inl ⟨rfl, rfl⟩⟩
 case round =>
  obtain ⟨rfl, hr⟩ := hrel
  rcases hr with ⟨rfl, rfl⟩ | ⟨rfl, rfl⟩ | ⟨rfl, rfl⟩
  ·go_wp2
   go_roundw
   case rel => exact ⟨trivial, .inr (.inl ⟨rfl, by go_num⟩)⟩
   case measure => decide
  ·go_wp2
   go_roundw
   case rel => exact ⟨trivial, .inr (.inr ⟨rfl, by first | rfl | go_num⟩)⟩
   case measure => decide
  ·go_wp2_with fail
   refine (show Calls Tryz.prog 110 _ _ _ from HG.out).mono ?_
   rintro e w2 ⟨rfl, hw2⟩
   obtain rfl := hw2.symm
   clear HG
   go_wp2
   go_loopw [27, 6] (fun r x wr => (r = .int .i64 0 ∧ x = V0 ∧ wr = W0) ∨ (r = .int .i64 1 ∧ x = V1 ∧ wr = W1) ∨ (r = .int .i64 2 ∧ x = V2 ∧ wr = W2)) (fun r _ _ => 2 - vuOf r)
   case atStart => exact .inl ⟨rfl, rfl, rfl⟩
   case round =>
    rcases hrel with ⟨rfl, rfl, hw⟩ | ⟨rfl, rfl, hw⟩ | ⟨rfl, rfl, hw⟩
    ·obtain rfl := hw.symm
     go_wp2_with (at_builtin; refine vwpList_append_run rfl _ _ 64 rfl _ _ _ rfl rfl HQ0.out ?_)
     go_roundw
     case rel => exact .inr (.inl (by first | exact ⟨rfl, rfl, trivial⟩ | exact ⟨rfl, rfl, rfl⟩))
     case measure => decide
    ·obtain rfl := hw.symm
     go_wp2_with (at_builtin; refine vwpList_append_run rfl _ _ 64 rfl _ _ _ rfl rfl HQ1.out ?_)
     go_roundw
     case rel => exact .inr (.inr (by first | exact ⟨rfl, rfl, trivial⟩ | exact ⟨rfl, rfl, rfl⟩))
     case measure => decide
    ·obtain rfl := hw.symm
     go_wp2
     go_ret
     exact HP.out
end Go.Proofs.YtenjollhlgjjdaaGreatDoor
namespace Go.Proofs.YtenjollhlgjjdaaGreatDoor
open Go.RowKit
def vnn (t : Vt) : Int := if t.k = 1 ∨ t.k = 6 then t.n else if t.k = 3 then (if t.n != 0 then 1 else 0) else 0
def vss (t : Vt) : ByteArray := if t.k = 2 ∨ t.k = 7 then t.s else ⟨#[]⟩
def NfT : Nat → Vt → Prop
 | 0, _ => False
 | d + 1, t => t.l.length ≤ 1048576 ∧ (-9223372036854775808 ≤ t.n ∧ t.n ≤ 9223372036854775807) ∧ t.n = vnn t ∧ t.s = vss t ∧ ∀ x ∈ t.l, NfT d x
theorem NfT.mono : ∀ {d d' : Nat} {t : Vt}, d ≤ d' → NfT d t → NfT d' t
 | 0, _, _, _, h => h.elim
 | d + 1, 0, t, hd, h => by omega
 | d + 1, e + 1, t, hd, h => ⟨h.1, h.2.1, h.2.2.1, h.2.2.2.1, fun x hx => (h.2.2.2.2 x hx).mono (by omega)⟩
theorem nf8 {d : Nat} : NfT (d + 1) ⟨8, 0, ⟨#[]⟩, []⟩ := ⟨Nat.zero_le _, ⟨by decide, by decide⟩, rfl, rfl, fun x hx => by cases hx⟩
theorem nm_nf : ∀ (d : Nat) (i : Bool) (t : Vt), SmT d t → NfT d (nm d i t)
 | 0, _, _, h => h.elim
 | d + 1, i, t, h => by
   obtain ⟨k, n, s, l⟩ := t
   obtain ⟨h1, h2, h3, h4, h5⟩ := h
   dsimp only at h1 h2 h3 h4 h5
   unfold nm
   dsimp only
   have z0 : (-9223372036854775808 : Int) ≤ 0 ∧ (0 : Int) ≤ 9223372036854775807 := ⟨by decide, by decide⟩
   split
   ·exact ⟨Nat.zero_le _, h4, rfl, rfl, fun x hx => by cases hx⟩
   split
   ·exact ⟨Nat.zero_le _, z0, rfl, rfl, fun x hx => by cases hx⟩
   split
   ·refine ⟨Nat.zero_le _, ?_, ?_, rfl, fun x hx => by cases hx⟩ <;> dsimp only [vnn] <;> cases n != 0 <;> decide
   split
   ·refine ⟨by simpa using h2, z0, rfl, rfl, fun x hx => ?_⟩
    obtain ⟨y, hy, rfl⟩ := List.mem_map.1 hx
    exact nm_nf d false y (h5 y hy)
   split
   ·refine ⟨by simpa using h2, z0, rfl, rfl, fun x hx => ?_⟩
    obtain ⟨y, hy, rfl⟩ := List.mem_map.1 hx
    exact nm_nf d true y (h5 y hy)
   split
   ·exact ⟨Nat.zero_le _, h4, rfl, rfl, fun x hx => by cases hx⟩
   split
   ·exact ⟨Nat.zero_le _, z0, rfl, rfl, fun x hx => by cases hx⟩
   ·exact nf8
def NuAt (w : World) (B d : Nat) (t : Vt) (lv : Value) : Prop := ∃ S, VsAt w S d t.l lv ∧ ∀ b, S b → B ≤ b ∧ b < w.heap.size
theorem NuAt.only {w w' : World} {B d : Nat} {t : Vt} {lv : Value} {bs : Nat → Prop} (h : NuAt w B d t lv) (o : Only bs w w') (hb : ∀ b, B ≤ b → ¬ bs b) : NuAt w' B d t lv := by
 obtain ⟨S, ht, hS⟩ := h
 exact ⟨S, ht.step (fun _ g => g) (fun a u hs hc => o.cell hc (hb _ (hS _ hs).1)) (Nat.le_refl _), fun b hbS => ⟨(hS b hbS).1, Nat.lt_of_lt_of_le (hS b hbS).2 o.size⟩⟩
theorem NuAt.lower {w : World} {B C d : Nat} {t : Vt} {lv : Value} (h : NuAt w B d t lv) (hC : C ≤ B) : NuAt w C d t lv := by
 obtain ⟨S, ht, hS⟩ := h
 exact ⟨S, ht, fun b hbS => ⟨Nat.le_trans hC (hS b hbS).1, (hS b hbS).2⟩⟩
theorem NuAt.deep {w : World} {B d d' : Nat} {t : Vt} {lv : Value} (h : NuAt w B d t lv) (hd : d ≤ d') : NuAt w B d' t lv := by
 obtain ⟨S, ht, hS⟩ := h
 exact ⟨S, ht.step (fun _ g => g) (fun _ _ _ g => g) hd, hS⟩
theorem nu_nil {w : World} {B d : Nat} {t : Vt} (h : t.l = []) : NuAt w B (d + 1) t (.slice none 0 0) :=
 ⟨fun _ => False, ⟨none, 0, by rw [h]; rfl, by rw [h]; exact Nat.zero_le _, fun i x hx => by rw [h] at hx; simp at hx⟩, fun b h => h.elim⟩
theorem NuAt.form {w : World} {B d : Nat} {t : Vt} {lv : Value} (h : NuAt w B d t lv) : ∃ ao cap, lv = .slice ao t.l.length cap := by
 obtain ⟨S, ht, _⟩ := h
 cases d with
 | zero => exact ht.elim
 | succ d => obtain ⟨ao, cap, hv, _⟩ := ht; exact ⟨ao, cap, hv⟩
def UrAt (w : World) (B d : Nat) (v : Value) (l : List Vt) : Prop :=
 ∃ us S, w.ownsRow B 38 4 v l.length us ∧ (∀ (j : Nat) (x : Vt), l[j]? = some x → ∃ lx, (us[j * 4]? = some (.int .i64 x.k) ∧ us[j * 4 + 1]? = some (.int .i64 (x.n)) ∧ us[j * 4 + 2]? = some (.string (x.s)) ∧ us[j * 4 + 3]? = some lx) ∧ VsAt w S d x.l lx) ∧ ∀ b, S b → B ≤ b ∧ b < w.heap.size ∧ v.ownBlock ≠ some b
theorem ur_nil (w : World) (B d : Nat) : UrAt w B d (.slice none 0 0) [] :=
 ⟨[], fun _ => False, ⟨rfl, .inl ⟨rfl, rfl⟩⟩, fun j x h => by simp at h, fun b h => h.elim⟩
theorem UrAt.form {w : World} {B d : Nat} {v : Value} {l : List Vt} (h : UrAt w B d v l) : ∃ ao cap, v = .slice ao l.length cap := by
 obtain ⟨us, S, ho, _⟩ := h
 rcases ho.2 with ⟨h1, h2⟩ | ⟨g, cap, cur, h1, _⟩
 ·exact ⟨_, _, by rw [h1, h2]⟩
 ·exact ⟨_, _, h1⟩
theorem UrAt.only {w w' : World} {B d : Nat} {v : Value} {l : List Vt} {bs : Nat → Prop} (h : UrAt w B d v l) (o : Only bs w w') (hb : ∀ b, B ≤ b → ¬ bs b) : UrAt w' B d v l := by
 obtain ⟨us, S, ho, ht, hS⟩ := h
 refine ⟨us, S, o.owns ho (fun k hk => hb k (ho.lt k hk).1), fun j x hx => ?_, fun b hbS => ?_⟩
 ·obtain ⟨lx, hu, h2⟩ := ht j x hx
  exact ⟨lx, hu, h2.step (fun _ g => g) (fun a u hs hc => o.cell hc (hb _ (hS _ hs).1)) (Nat.le_refl _)⟩
 ·obtain ⟨h1, h2, h3⟩ := hS b hbS
  exact ⟨h1, Nat.lt_of_lt_of_le h2 o.size, h3⟩
theorem UrAt.snoc {w w' : World} {B C d : Nat} {v v' : Value} {l : List Vt} {t : Vt} {lv : Value} {us : List Value} {S : Nat → Prop} (hg : w.grownBy w' v.ownBlock) (ho : w.ownsRow B 38 4 v l.length us) (ht : ∀ (j : Nat) (x : Vt), l[j]? = some x → ∃ lx, (us[j * 4]? = some (.int .i64 x.k) ∧ us[j * 4 + 1]? = some (.int .i64 (x.n)) ∧ us[j * 4 + 2]? = some (.string (x.s)) ∧ us[j * 4 + 3]? = some lx) ∧ VsAt w S d x.l lx) (hS : ∀ b, S b → B ≤ b ∧ b < w.heap.size ∧ v.ownBlock ≠ some b)
  (hn : NuAt w C d t lv) (hC : B ≤ C) (hv : ∀ k, v.ownBlock = some k → k < C) (ho' : w'.ownsRow B 38 4 v' (l.length + 1) (us ++ [.int .i64 t.k, .int .i64 (t.n), .string (t.s), lv])) (hat : v'.ownBlock = v.ownBlock ∨ v'.ownBlock = some w.heap.size) : UrAt w' B d v' (l ++ [t]) := by
 obtain ⟨S1, t1, s1⟩ := hn
 have oo : Only (fun k => v.ownBlock = some k) w w' := (Only.refl _ w).grown hg (fun k e _ => e)
 have a1 : ∀ b, S b → ¬ v.ownBlock = some b := fun b h => (hS b h).2.2
 have a2 : ∀ b, S1 b → ¬ v.ownBlock = some b := fun b h e => by have := hv b e; have := (s1 b h).1; omega
 have hl : us.length = l.length * 4 := ho.1
 refine ⟨_, fun b => S b ∨ S1 b, by simpa using ho', fun j x hx => ?_, fun b hb => ?_⟩
 ·by_cases hj : j < l.length
  ·rw [List.getElem?_append_left hj] at hx
   obtain ⟨lx, ⟨h0, h1, h2, h3⟩, h6⟩ := ht j x hx
   have ap : ∀ i u, us[i]? = some u → (us ++ [.int .i64 t.k, .int .i64 (t.n), .string (t.s), lv])[i]? = some u := fun i u hu => by
    rw [List.getElem?_append_left (List.getElem?_eq_some_iff.1 hu).1]; exact hu
   exact ⟨lx, ⟨ap _ _ h0, ap _ _ h1, ap _ _ h2, ap _ _ h3⟩, h6.step (fun _ g => .inl g) (fun a y hs hc => oo.cell hc (a1 _ hs)) (Nat.le_refl _)⟩
  ·have hj2 : j < (l ++ [t]).length := (List.getElem?_eq_some_iff.1 hx).1
   have hj3 : j = l.length := by simp at hj2; omega
   subst hj3
   simp at hx
   subst hx
   have ap : ∀ i, (us ++ [.int .i64 t.k, .int .i64 (t.n), .string (t.s), lv])[l.length * 4 + i]? = ([.int .i64 t.k, .int .i64 (t.n), .string (t.s), lv] : List Value)[i]? := fun i => by
    rw [List.getElem?_append_right (by omega)]
    congr 1
    omega
   exact ⟨lv, ⟨ap 0, ap 1, ap 2, ap 3⟩, t1.step (fun _ g => .inr g) (fun a y hs hc => oo.cell hc (a2 _ hs)) (Nat.le_refl _)⟩
 ·have h1 : B ≤ b ∧ b < w.heap.size ∧ v.ownBlock ≠ some b := by
   rcases hb with h | h
   ·exact hS b h
   ·exact ⟨Nat.le_trans hC (s1 b h).1, (s1 b h).2, a2 b h⟩
  refine ⟨h1.1, Nat.lt_of_lt_of_le h1.2.1 oo.size, ?_⟩
  rcases hat with e | e <;> rw [e]
  ·exact h1.2.2
  ·intro e2
   injection e2 with e2
   have := h1.2.1
   omega
theorem UrAt.tree {w : World} {B d : Nat} {v : Value} {l : List Vt} {t : Vt} (h : UrAt w B d v l) (e : t.l = l) : NuAt w B (d + 1) t v := by
 subst e
 obtain ⟨us, S, ho, ht, hS⟩ := h
 refine ⟨fun b => S b ∨ v.ownBlock = some b, ?_, fun b hb => ?_⟩
 ·rcases ho.2 with ⟨rfl, h2⟩ | ⟨g, cap, cur, hv, hB, hg, hn, hcm, hcs, htk⟩
  ·exact ⟨none, 0, by rw [h2], by omega, fun i x hx => by have := (List.getElem?_eq_some_iff.1 hx).1; omega⟩
  ·refine ⟨some ⟨g, 0, none⟩, cap, hv, hn, fun i x hx => ?_⟩
   obtain ⟨lx, ⟨h0, h1, h2, h3⟩, h4⟩ := ht i x hx
   have hc : ∀ j u, us[j]? = some u → w.cell? ⟨g, 0 + j, none⟩ = some u := fun j u hu => by
    have := ho.cells (g := g) (by rw [hv]; rfl) j u hu
    rwa [addr_ad, ← Nat.zero_add j] at this
   exact ⟨g, 0, lx, rfl, .inr (by rw [hv]; rfl), ⟨hc _ _ h0, hc _ _ h1, hc _ _ h2, hc _ _ h3⟩, h4.step (fun _ g => .inl g) (fun _ _ _ g => g) (Nat.le_refl _)⟩
 ·rcases hb with h | h
  ·exact ⟨(hS b h).1, (hS b h).2.1⟩
  ·exact ho.lt b h
theorem uas_hit (T xt : TypeId) (D : TypeDesc) (hD : Tryz.prog.underlying T = some D) (hn : ∀ m, D ≠ .interface m) (x : Value) (W : World) : (Instr.typeAssert (.iface T x) xt T true).run Tryz.prog W = .ok (.tuple #[x, .bool true]) W := by
 simp only [Instr.typeAssert, Sem.run_bind, run_underlying hD, Result.andThen_ok]
 cases D <;> simp_all
theorem uas_miss (T U xt : TypeId) (D : TypeDesc) (hD : Tryz.prog.underlying U = some D) (hn : ∀ m, D ≠ .interface m) (hT : T ≠ U) (z : Value) (hz : ∀ W : World, (zeroValue U).run Tryz.prog W = .ok z W) (x : Value) (W : World) : (Instr.typeAssert (.iface T x) xt U true).run Tryz.prog W = .ok (.tuple #[z, .bool false]) W := by
 simp only [Instr.typeAssert, Sem.run_bind, run_underlying hD, Result.andThen_ok]
 cases D <;> simp_all
theorem uas_nil (U xt : TypeId) (D : TypeDesc) (hD : Tryz.prog.underlying U = some D) (hn : ∀ m, D ≠ .interface m) (z : Value) (hz : ∀ W : World, (zeroValue U).run Tryz.prog W = .ok z W) (W : World) : (Instr.typeAssert .nilIface xt U true).run Tryz.prog W = .ok (.tuple #[z, .bool false]) W := by
 simp only [Instr.typeAssert, Sem.run_bind, run_underlying hD, Result.andThen_ok]
 cases D <;> simp_all
def QiAt (w : World) (S : Nat → Prop) (d : Nat) (i : Bool) (v : Value) (l : List Vt) : Prop := ∃ ao cap, v = .slice ao l.length cap ∧ l.length ≤ cap ∧ ∀ (j : Nat) (x : Vt), l[j]? = some x → ∃ g k u, ao = some ⟨g, k, none⟩ ∧ S g ∧ w.cell? ⟨g, k + j, none⟩ = some u ∧ TiAt w S d i x u
theorem QiAt.step {w w' : World} {S S' : Nat → Prop} (hS : ∀ b, S b → S' b) (hk : ∀ (a : Addr) u, S a.block → w.cell? a = some u → w'.cell? a = some u) {d d' : Nat} {i : Bool} {l : List Vt} {v : Value} (hd : d ≤ d') (h : QiAt w S d i v l) : QiAt w' S' d' i v l := by
 obtain ⟨ao, cap, hv, hc, hl⟩ := h
 refine ⟨ao, cap, hv, hc, fun j x hx => ?_⟩
 obtain ⟨g, k, u, ha, hg, hu, ht⟩ := hl j x hx
 exact ⟨g, k, u, ha, hS g hg, hk _ _ hg hu, ht.step hS hk hd⟩
end Go.Proofs.YtenjollhlgjjdaaGreatDoor
