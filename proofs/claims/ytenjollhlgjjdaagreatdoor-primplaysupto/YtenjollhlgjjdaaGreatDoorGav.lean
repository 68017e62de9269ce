import Derived.Test.YtenjollhlgjjdaaGreatDoorGaa
import Derived.Test.YtenjollhlgjjdaaGreatDoorGau
import Derived.Deep.RegionLaw
import Derived.Deep.DrawnRows
import Derived.Deep.RegionHeld3
/-     -/
set_option linter.unusedSimpArgs false
set_option linter.unusedVariables false
set_option maxRecDepth 100000
set_option maxHeartbeats 40000000
namespace Go.Proofs.YtenjollhlgjjdaaGreatDoor
open Go.RowKit Go.Lib
theorem step_rw {op : Oper} {A : Act} {K0 : Act → World → Prop} {Q : Exit → Act → World → Prop} {ops : Array Oper} {E : Prop} {X : World} {B d m n c1 c : Nat} {S S2 : Nat → Prop} {a1 ao : Option Addr} {l l2 : List Vt} (hgd : op.guard = none) (s y : Operand) (ho : op.op = .call { callee := .builtin .append, args := #[s, y], argTypes := #[22, 22] }) (hs : A.eval s = .slice a1 m c1) (hy : A.eval y = .slice ao n c)
  (h : RwAt X B S d (.slice a1 m c1) l) (h2 : VsAt X S2 (d + 1) l2 (.slice ao n c)) (hS2 : ∀ b, S2 b → b < X.heap.size ∧ (Value.slice a1 m c1).ownBlock ≠ some b) (hl : l.length ≤ 1048576) (hl2 : l2.length ≤ 1048576) (hB : B ≤ X.heap.size)
  (hk : ∀ a' c' w', Hid (RwAt w' B (fun b => S b ∨ S2 b) d (.slice a' (m + n) c') (l ++ l2) ∧ Only (fun k => (Value.slice a1 m c1).ownBlock = some k) X w') → K0 (A.put op.dst (.slice a' (m + n) c')) w') : if Region.wanted op (yielded ops A.tmps) = true then Oper.wp Tryz.prog op A X K0 Q else E := by
 obtain ⟨v', w', hr, h3, h4⟩ := h.app h2 hS2 hl hl2 hB
 obtain ⟨ao1, cap1, e1⟩ := h.form
 obtain ⟨ao2, cap2, e2, _⟩ := h2
 obtain ⟨a', c', e3⟩ := h3.form
 simp only [Value.slice.injEq] at e1 e2
 rw [List.length_append, ← e1.2.1, ← e2.2.1] at e3
 subst e3
 exact vstep_append_run hgd s y 22 ho _ _ _ hs hy hr (hk a' c' w' ⟨h3, h4⟩)
def RvR (w2 wr : World) (B C d : Nat) (S : Nat → Prop) (row : Value) (l : List Vt) : Prop := wr.heap[B + 1 + 1]? = some (.cells #[.int .i64 4, .int .i64 0, .string ⟨#[]⟩, row] 38) ∧ RwAt wr C S d row l ∧ Only (fun b => b = B + 1 + 1) w2 wr
theorem vs_one {W : World} {Q d : Nat} {S : Nat → Prop} {t : Vt} {lx : Value} (hb : W.heap[Q]? = some (.cells #[.int .i64 t.k, .int .i64 t.n, .string t.s, lx] 38)) (h : VsAt W S d t.l lx) : VsAt W (fun b => S b ∨ b = Q) (d + 1) [t] (.slice (some ⟨Q, 0, none⟩) 1 1) :=
 ⟨_, _, rfl, by simp, fun j y hy => by
  have hj : j = 0 := by have := (List.getElem?_eq_some_iff.1 hy).1; simp at this; exact this
  subst hj
  simp at hy
  subst hy
  exact ⟨Q, 0, lx, rfl, .inr rfl, ⟨vblk_cells hb 0, vblk_cells hb 1, vblk_cells hb 2, vblk_cells hb 3⟩, h.step (fun _ g => .inl g) (fun _ _ _ g => g) (Nat.le_refl _)⟩⟩
theorem rrev_list {d : Nat} {l : List Vt} {k0 : Int} {ao : Option Addr} {c : Nat} {w : World} {S : Nat → Prop} (h : VsAt w S (d + 1) l (.slice ao l.length c)) (hS : ∀ b, S b → b < w.heap.size) (hl : l.length ≤ 10000) : Cz 70 #[.agg #[.int .i64 4, .int .i64 k0, .string ⟨#[]⟩, .slice ao l.length c]] w fun e w' => ∃ a2 c2, e = .returned (.agg #[.int .i64 4, .int .i64 0, .string ⟨#[]⟩, .slice a2 l.length c2]) ∧ Hid ((∃ S', VsAt w' S' (d + 1) l.reverse (.slice a2 l.length c2)) ∧ Oz w w') := by
 have hct : (chT ⟨#[]⟩).length = 0 := by kernel_rfl
 have HC : Hid (∀ W, Cz 68 #[.string ⟨#[]⟩] W fun e w' => ∃ ao cap, e = .returned (.slice ao 0 cap) ∧ Oz W w') := fun W => (characters_any ⟨#[]⟩ (by decide) W).mono fun e w' g => by
  obtain ⟨a1, c1, he, g⟩ := g
  rw [hct] at he
  exact ⟨a1, c1, he, only_of g.out.2⟩
 obtain ⟨N, hN⟩ : ∃ N, N = l.length := ⟨_, rfl⟩
 have HN : Hid (N = l.length ∧ N ≤ 10000) := ⟨hN, by omega⟩
 have HV : Hid (VsAt w S (d + 1) l (.slice ao l.length c) ∧ ∀ b, S b → b < w.heap.size) := ⟨h, hS⟩
 have O0 : Hid (Oz w w) := Only.refl _ _
 rw [← hN]
 clear h hS hl hct hN
 go_enter Tryz.func70, Tryz.ntmps70
 go_wp2_with fail
 refine (show Cz 68 _ _ _ from HC.out _).mono ?_
 rintro e w2 ⟨a2, c2, rfl, o2⟩
 have RB : w2.heap[w.heap.size + 1 + 1]? = some (.cells #[.int .i64 4, .int .i64 0, .string ⟨#[]⟩, .slice none 0 0] 38) := (o2.block (w.heap.size + 1 + 1) (by simp) (fun h => h)).trans (valloc_at _ _ _ (by simp))
 have RR : w2.heap[w.heap.size + 1]? = some (.cells #[.int .i64 0, .int .i64 0, .string ⟨#[]⟩, .slice none 0 0] 38) := (o2.block (w.heap.size + 1) (by simp) (fun h => h)).trans (((Only.refl (fun _ => False) ((w.alloc (.cells #[.int .i64 4, .int .i64 k0, .string ⟨#[]⟩, .slice ao N c] 38)).alloc (.cells #[.int .i64 0, .int .i64 0, .string ⟨#[]⟩, .slice none 0 0] 38))).alloc _ |>.block (w.heap.size + 1) (by simp) (fun h => h)).trans (valloc_at _ _ _ (by simp)))
 have RA : w2.heap[w.heap.size]? = some (.cells #[.int .i64 4, .int .i64 k0, .string ⟨#[]⟩, .slice ao N c] 38) := (o2.block w.heap.size (by simp; omega) (fun h => h)).trans ((((Only.refl (fun _ => False) (w.alloc (.cells #[.int .i64 4, .int .i64 k0, .string ⟨#[]⟩, .slice ao N c] 38))).alloc _).alloc _ |>.block w.heap.size (by simp) (fun h => h)).trans (valloc_at _ _ _ rfl))
 have O2 : Hid (Oz w w2) := (((O0.out.alloc _).alloc _).alloc _).trans o2 (fun _ _ g => g)
 clear o2 HC O0
 obtain ⟨B, hBe⟩ : ∃ B, B = w.heap.size := ⟨_, rfl⟩
 have HE : Hid (B = w.heap.size) := hBe
 rw [← hBe] at RA RB RR ⊢
 clear hBe
 have HR0 : Hid (w2.heap[B + 1 + 1]? = some (.cells #[.int .i64 4, .int .i64 0, .string ⟨#[]⟩, .slice none 0 0] 38) ∧ w2.heap[B]? = some (.cells #[.int .i64 4, .int .i64 k0, .string ⟨#[]⟩, .slice ao N c] 38) ∧ w2.heap[B + 1]? = some (.cells #[.int .i64 0, .int .i64 0, .string ⟨#[]⟩, .slice none 0 0] 38)) := ⟨RB, RA, RR⟩
 have a3 := vblk_cells RA 3
 simp only [List.getElem?_toArray, List.getElem?_cons_zero, List.getElem?_cons_succ] at a3
 clear RA RB RR
 have i0 : IntKind.i64.wrap ((N : Int) - 1) = (N : Int) - 1 := by rw [IntKind.wrap_i64]; have := HN.out; omega
 go_wp2
 go_loopw [5] (fun r wr => r = .int .i64 (-1) ∧ wr = w2) (fun _ _ => 0)
 case atStart => exact ⟨rfl, rfl⟩
 case round =>
  obtain ⟨rfl, hwr⟩ := hrel
  rw [hwr]
  clear hwr
  go_wp2
  go_loopw [6] (fun r wr => ∃ j : Nat, r = .int .i64 ((j : Int) - 1) ∧ j ≤ N ∧ Hid (∃ row S', RvR w2 wr B w2.heap.size d S' row (l.drop j).reverse ∧ ∀ b, S' b → S b ∨ w2.heap.size ≤ b)) (fun r _ => (RowKit.intOf r + 1).toNat)
  case atStart => exact ⟨N, rfl, by omega, .slice none 0 0, fun _ => False, ⟨HR0.out.1, by rw [HN.out.1, List.drop_length]; exact rw_nil _ _ _ _ (fun b h => h.elim), Only.refl _ _⟩, fun b h => h.elim⟩
  case round =>
   obtain ⟨j, rfl, hj, HI⟩ := hrel
   obtain ⟨w5, hw5⟩ : ∃ w5, w5 = wr := ⟨_, rfl⟩
   rw [← hw5] at HI ⊢
   clear hw5
   obtain ⟨row, S', ⟨b5, rw5, o5⟩, hS5⟩ := HI.out
   have hBe : B = w.heap.size := HE.out
   have hsz : B + 1 + 1 < w2.heap.size := (Array.getElem?_eq_some_iff.1 HR0.out.1).1
   have bA : w5.heap[B]? = some (.cells #[.int .i64 4, .int .i64 k0, .string ⟨#[]⟩, .slice ao N c] 38) := (o5.block B (by omega) (fun e => by omega)).trans HR0.out.2.1
   have bR : w5.heap[B + 1]? = some (.cells #[.int .i64 0, .int .i64 0, .string ⟨#[]⟩, .slice none 0 0] 38) := (o5.block (B + 1) (by omega) (fun e => by omega)).trans HR0.out.2.2
   by_cases hj0 : j = 0
   ·subst hj0
    rw [List.drop_zero] at rw5
    obtain ⟨a5, c5, hrow⟩ := rw5.form
    rw [List.length_reverse, ← HN.out.1] at hrow
    subst hrow
    have i1 : ¬ (0 : Int) ≤ ((0 : Nat) : Int) - 1 := by omega
    have i2 : ¬ (((0 : Nat) : Int) - 1 ≥ 0) := by omega
    have HX5 : Hid (w5.heap[B + 1]? = some (.cells #[.int .i64 0, .int .i64 0, .string ⟨#[]⟩, .slice none 0 0] 38) ∧ Oz w w5 ∧ VsAt w5 (fun b => S' b ∨ (Value.slice a5 N c5).ownBlock = some b) (d + 1) l.reverse (.slice a5 N c5) ∧ ∀ b, (S' b ∨ (Value.slice a5 N c5).ownBlock = some b) → b ≠ B + 1) := by
     refine ⟨bR, O2.out.trans o5 (fun b hb e => by omega), rw5.vs, fun b hb e => ?_⟩
     rcases hb with hb | hb
     ·rcases hS5 b hb with h | h
      ·have := HV.out.2 b h; omega
      ·omega
     ·have := (rw5.lt b hb).1; omega
    have x0 := vblk_cells b5 0
    have x1 := vblk_cells b5 1
    have x2 := vblk_cells b5 2
    have x3 := vblk_cells b5 3
    have b0 := vblk_cells bR 0
    have b1 := vblk_cells bR 1
    have b2 := vblk_cells bR 2
    have b3 := vblk_cells bR 3
    have z0 := blk_froz bR 0
    have z1 := blk_froz bR 1
    have z2 := blk_froz bR 2
    have z3 := blk_froz bR 3
    simp only [List.getElem?_toArray, List.getElem?_cons_zero, List.getElem?_cons_succ] at x0 x1 x2 x3 b0 b1 b2 b3
    clear HI HR0 rw5 o5 hS5 bA bR b5 HV hsz hBe
    go_wp2
    obtain ⟨p0, p1, p2, p3⟩ := set4 HX5.out.1 rfl (.int .i64 4) (.int .i64 0) (.string ⟨#[]⟩) (.slice a5 N c5)
    have OB := @uonly4 w5 (B + 1) (.int .i64 4) (.int .i64 0) (.string ⟨#[]⟩) (.slice a5 N c5)
    have hBe : B = w.heap.size := HE.out
    refine bodyPost_ret (uresults_v rfl _ _ (B + 1) p0 p1 p2 p3 rfl) rfl ⟨a5, c5, rfl, ⟨_, HX5.out.2.2.1.step (fun _ g => g) (fun ad u hs hc => OB.cell hc (HX5.out.2.2.2 _ hs)) (Nat.le_refl _)⟩, HX5.out.2.1.trans OB (fun b h e => by omega)⟩
   ·obtain ⟨i, rfl⟩ : ∃ i, j = i + 1 := ⟨j - 1, by omega⟩
    have hil : i < l.length := by rw [← HN.out.1]; omega
    obtain ⟨t, ht⟩ : ∃ t, l[i]? = some t := ⟨l[i]'hil, List.getElem?_eq_getElem hil⟩
    obtain ⟨ao0, cap0, hv0, _, hel⟩ := HV.out.1
    simp only [Value.slice.injEq] at hv0
    obtain ⟨rfl, _, rfl⟩ := hv0
    obtain ⟨g, kk, lx, rfl, hSg, ⟨h0, h1, h2, h3⟩, hlx⟩ := hel i t ht
    obtain ⟨al, cl, hlv⟩ := hlx.form
    subst hlv
    obtain ⟨a5, c5, hrow⟩ := rw5.form
    obtain ⟨m, hm⟩ : ∃ m, m = (l.drop (i + 1)).reverse.length := ⟨_, rfl⟩
    rw [← hm] at hrow
    subst hrow
    have o0 : Only (fun b => b = B + 1 + 1) w w5 := (O2.out.mono (bs' := fun b => b = B + 1 + 1) (fun _ _ g => g.elim)).trans o5 (fun _ _ g => g)
    have hgB : g < B := by have := HV.out.2 g hSg; omega
    have q0 := o0.cell h0 (show ¬ (g = B + 1 + 1) by omega)
    have q1 := o0.cell h1 (show ¬ (g = B + 1 + 1) by omega)
    have q2 := o0.cell h2 (show ¬ (g = B + 1 + 1) by omega)
    have q3 := o0.cell h3 (show ¬ (g = B + 1 + 1) by omega)
    obtain ⟨tk, htk⟩ : ∃ k, k = t.k := ⟨_, rfl⟩
    obtain ⟨tn, htn⟩ : ∃ k, k = t.n := ⟨_, rfl⟩
    obtain ⟨ts, hts⟩ : ∃ k, k = t.s := ⟨_, rfl⟩
    obtain ⟨tl, htl⟩ : ∃ k, k = t.l.length := ⟨_, rfl⟩
    rw [← htk] at q0
    rw [← htn] at q1
    rw [← hts] at q2
    rw [← htl] at q3
    have q4 := vblk_cells bA 3
    have q5 := vblk_cells b5 3
    simp only [List.getElem?_toArray, List.getElem?_cons_zero, List.getElem?_cons_succ] at q4 q5
    have d0 : w5.drew.cell? ⟨g, kk + i * 4, none⟩ = some (.int .i64 tk) := q0
    have d1 : w5.drew.cell? ⟨g, kk + i * 4 + 1, none⟩ = some (.int .i64 tn) := q1
    have d2 : w5.drew.cell? ⟨g, kk + i * 4 + 2, none⟩ = some (.string ts) := q2
    have d3 : w5.drew.cell? ⟨g, kk + i * 4 + 3, none⟩ = some (.slice al tl cl) := q3
    have d4 : w5.drew.cell? ⟨B, 3, none⟩ = some (.slice (some ⟨g, kk, none⟩) N c) := q4
    have d5 : w5.drew.cell? ⟨B + 1 + 1, 3, none⟩ = some (.slice a5 m c5) := q5
    obtain ⟨X, hX⟩ : ∃ X, X = (w5.alloc (.cells #[.int .i64 tk, .int .i64 tn, .string ts, .slice al tl cl] 38)).drew := ⟨_, rfl⟩
    have oX : Oz w5 X := by rw [hX]; exact ((Only.refl _ w5).alloc _).drew
    have hXb : X.heap[w5.heap.size]? = some (.cells #[.int .i64 t.k, .int .i64 t.n, .string t.s, .slice al t.l.length cl] 38) := by rw [hX, ← htk, ← htn, ← hts, ← htl]; exact valloc_at w5 _ _ rfl
    have e0 : X.cell? ⟨g, kk + i * 4, none⟩ = some (.int .i64 tk) := oX.cell q0 (fun g => g)
    have e1 : X.cell? ⟨g, kk + i * 4 + 1, none⟩ = some (.int .i64 tn) := oX.cell q1 (fun g => g)
    have e2 : X.cell? ⟨g, kk + i * 4 + 2, none⟩ = some (.string ts) := oX.cell q2 (fun g => g)
    have e3 : X.cell? ⟨g, kk + i * 4 + 3, none⟩ = some (.slice al tl cl) := oX.cell q3 (fun g => g)
    have e4 : X.cell? ⟨B, 3, none⟩ = some (.slice (some ⟨g, kk, none⟩) N c) := oX.cell q4 (fun g => g)
    have e5 : X.cell? ⟨B + 1 + 1, 3, none⟩ = some (.slice a5 m c5) := oX.cell q5 (fun g => g)
    have hlx5 : VsAt w5 S d t.l (.slice al t.l.length cl) := hlx.step (fun _ g => g) (fun a u hs hc => o0.cell hc (by have := HV.out.2 _ hs; omega)) (Nat.le_refl _)
    have hlx6 : VsAt X S d t.l (.slice al t.l.length cl) := hlx5.step (fun _ g => g) (fun a u hs hc => oX.cell hc (fun g => g)) (Nat.le_refl _)
    have hw5 : w2.heap.size ≤ w5.heap.size := o5.size
    have HQ : Hid (RwAt X w2.heap.size S' d (.slice a5 m c5) (l.drop (i + 1)).reverse ∧ VsAt X (fun b => S b ∨ b = w5.heap.size) (d + 1) [t] (.slice (some ⟨w5.heap.size, 0, none⟩) 1 1) ∧ (∀ b, (S b ∨ b = w5.heap.size) → b < X.heap.size ∧ (Value.slice a5 m c5).ownBlock ≠ some b) ∧ (l.drop (i + 1)).reverse.length ≤ 1048576 ∧ [t].length ≤ 1048576 ∧ w2.heap.size ≤ X.heap.size) := by
     have hXs : w5.heap.size < X.heap.size := (Array.getElem?_eq_some_iff.1 hXb).1
     refine ⟨rw5.only oX (fun _ _ g => g) (fun _ _ g => g), vs_one hXb hlx6, fun b hb => ?_, by rw [← hm]; rw [List.length_reverse, List.length_drop] at hm; have := HN.out; omega, by simp, by omega⟩
     rcases hb with hb | rfl
     ·have := HV.out.2 b hb
      exact ⟨by omega, fun e => by have := (rw5.lt b e).1; omega⟩
     ·exact ⟨hXs, fun e => by have := (rw5.lt _ e).2; omega⟩
    have HEN : Hid (∀ a6 c6 w6, Hid (RwAt w6 w2.heap.size (fun b => S' b ∨ (S b ∨ b = w5.heap.size)) d (.slice a6 (m + 1) c6) ((l.drop (i + 1)).reverse ++ [t]) ∧ Only (fun k => (Value.slice a5 m c5).ownBlock = some k) X w6) → w6.heap[B + 1 + 1]? = some (.cells #[.int .i64 4, .int .i64 0, .string ⟨#[]⟩, .slice a5 m c5] 38) ∧ Hid (∃ row S', RvR w2 (w6.setCell ⟨B + 1 + 1, 3, none⟩ (.slice a6 (m + 1) c6)) B w2.heap.size d S' row (l.drop i).reverse ∧ ∀ b, S' b → S b ∨ w2.heap.size ≤ b)) := fun a6 c6 w6 hf => by
     have hXB : X.heap[B + 1 + 1]? = some (.cells #[.int .i64 4, .int .i64 0, .string ⟨#[]⟩, .slice a5 m c5] 38) := (oX.block _ (Array.getElem?_eq_some_iff.1 b5).1 (fun g => g)).trans b5
     have h6 : w6.heap[B + 1 + 1]? = some (.cells #[.int .i64 4, .int .i64 0, .string ⟨#[]⟩, .slice a5 m c5] 38) := (hf.out.2.block _ (Array.getElem?_eq_some_iff.1 hXB).1 (fun e => by have := (rw5.lt _ e).1; omega)).trans hXB
     refine ⟨h6, .slice a6 (m + 1) c6, fun b => S' b ∨ (S b ∨ b = w5.heap.size), ⟨(heap_setCell_same _ _ 3 _ _ _ h6).trans rfl, ?_, ?_⟩, fun b hb => ?_⟩
     ·have e : (l.drop i).reverse = (l.drop (i + 1)).reverse ++ [t] := by
       rw [List.drop_eq_getElem_cons hil, List.reverse_cons]
       rw [List.getElem?_eq_getElem hil] at ht
       injection ht with ht
       rw [ht]
      rw [e]
      have o7 : Only (fun b => b = B + 1 + 1) w6 (w6.setCell ⟨B + 1 + 1, 3, none⟩ (.slice a6 (m + 1) c6)) := (Only.refl (fun b => b = B + 1 + 1) w6).setCell _ _ (fun _ => rfl)
      refine hf.out.1.only o7 (fun b hb e => ?_) (fun b hb e => by have := (hf.out.1.lt b hb).1; omega)
      rcases hb with hb | hb | hb
      ·rcases hS5 b hb with h | h
       ·have := HV.out.2 b h; omega
       ·omega
      ·have := HV.out.2 b hb; omega
      ·omega
     ·have o7 : Only (fun b => b = B + 1 + 1) w6 (w6.setCell ⟨B + 1 + 1, 3, none⟩ (.slice a6 (m + 1) c6)) := (Only.refl (fun b => b = B + 1 + 1) w6).setCell _ _ (fun _ => rfl)
      exact (o5.trans (oX.mono (bs' := fun b => b = B + 1 + 1) (fun _ _ g => g.elim)) (fun _ _ g => g)).trans (hf.out.2.mono (bs' := fun b => b = B + 1 + 1 ∨ w2.heap.size ≤ b) (fun b _ e => .inr (rw5.lt b e).1)) (fun b hb e => e.elim (fun e => e) (fun e => absurd e (by omega))) |>.trans o7 (fun _ _ g => g)
     ·rcases hb with hb | hb | hb
      ·exact hS5 b hb
      ·exact .inl hb
      ·exact .inr (by omega)
    have i1 : ((i + 1 : Nat) : Int) - 1 = (i : Int) := by omega
    have i2 : (0 : Int) ≤ (i : Int) := by omega
    have i3 : (i : Int) < (N : Int) := by omega
    have i4 : IntKind.i64.wrap ((i : Int) - 1) = (i : Int) - 1 := by rw [IntKind.wrap_i64]; have := HN.out; omega
    have i5 : i ≤ 10000 := by have := HN.out; omega
    rw [i1]
    rw [hX] at HQ e0 e1 e2 e3 e4 e5 HEN
    clear hBe HI rw5 o5 hS5 b5 bA bR hel hSg h0 h1 h2 h3 hlx hlx5 hlx6 o0 hgB hX oX hXb q0 q1 q2 q3 q4 q5 HR0 hm htk htn hts htl ht hw5 hsz HV
    go_wp2
    go_region_law (refine step_rw (by rfl) _ _ (by rfl) (by rfl) (by rfl) HQ.out.1 HQ.out.2.1 HQ.out.2.2.1 HQ.out.2.2.2.1 HQ.out.2.2.2.2.1 HQ.out.2.2.2.2.2 ?_; intro a6 c6 w6 hf; have hf5 := HEN.out a6 c6 w6 hf; have y9 : w6.cell? ⟨B + 1 + 1, 3, none⟩ = some (.slice a5 m c5) := vblk_cells hf5.1 3; have x9 := blk_froz hf5.1 3)
    all_goals
     have HFN := hf5.2
     clear hf5 hf HQ HEN y9 x9 d0 d1 d2 d3 d4 d5 e0 e1 e2 e3 e4 e5
     go_wp2
     go_roundw
     case rel => exact ⟨i, rfl, by omega, HFN.out⟩
     case measure => simp only [RowKit.intOf]; omega
theorem dc_q {t : Vt} {lv : Value} {D : Nat} {S : Nat → Prop} {w W : World} {Q : Nat} (hb : W.heap[Q]? = some (.cells #[.int .i64 t.k, .int .i64 t.n, .string t.s, lv] 38)) (h : VsAt W S D t.l lv) (o : Oz w W) : DcP (oneR (.ok t)) (D + 1) w (.returned (.tuple #[.slice (some ⟨Q, 0, none⟩) 1 1, .int .i64 0])) W := ⟨_, _, rfl, ⟨⟨_, vs_one hb h⟩, o⟩⟩
theorem sadd (a b : ByteArray) (h : a.size + b.size ≤ 9223372036854775807) (W : World) : (Op.stringOp BinOp.add a b).run Tryz.prog W = .ok (.string (a ++ b)) W := by go_simp
theorem rro_append (g o c : Nat) (x y : Vt) (a0 a1 : Option Addr) (c0 c1 d : Nat) (S : Nat → Prop) (w : World) (h0 : V4 w g o x.k x.n x.s (.slice a0 x.l.length c0)) (h1 : V4 w g (o + 4) y.k y.n y.s (.slice a1 y.l.length c1)) (hx : VsAt w S (d + 1) x.l (.slice a0 x.l.length c0)) (hy : VsAt w S (d + 1) y.l (.slice a1 y.l.length c1)) (hS : ∀ b, S b → b < w.heap.size) (hsm : ∀ z ∈ x.l, ∃ e, SmT e z) (hl : x.l.length ≤ 10000 ∧ y.l.length ≤ 10000) (hs : x.s.size ≤ 4096 ∧ y.s.size ≤ 4096) :
  Cz 42 #[.string ⟨#[97, 112, 112, 101, 110, 100]⟩, .slice (some ⟨g, o, none⟩) 2 c] w fun e w' => DcP (oneR (.ok ⟨x.k, 0, x.s ++ y.s, x.l ++ y.l⟩)) (d + 2) w e w' := by
 obtain ⟨xk, hxk⟩ : ∃ k, k = x.k := ⟨_, rfl⟩
 obtain ⟨xs, hxs⟩ : ∃ k, k = x.s := ⟨_, rfl⟩
 obtain ⟨ys, hys⟩ : ∃ k, k = y.s := ⟨_, rfl⟩
 obtain ⟨L0, hL0⟩ : ∃ k, k = x.l.length := ⟨_, rfl⟩
 obtain ⟨L1, hL1⟩ : ∃ k, k = y.l.length := ⟨_, rfl⟩
 obtain ⟨X, hX⟩ : ∃ X : Vt, X = ⟨x.k, 0, x.s ++ y.s, x.l ++ y.l⟩ := ⟨_, rfl⟩
 have HC : Hid (∀ W, Oz w W → (W.cell? ⟨g, o, none⟩ = some (.int .i64 xk) ∧ W.cell? ⟨g, o + 2, none⟩ = some (.string xs) ∧ W.cell? ⟨g, o + 3, none⟩ = some (.slice a0 L0 c0)) ∧ (W.cell? ⟨g, o + 4 + 2, none⟩ = some (.string ys) ∧ W.cell? ⟨g, o + 4 + 3, none⟩ = some (.slice a1 L1 c1))) := fun W q => by
  rw [hxk, hxs, hys, hL0, hL1]
  exact ⟨⟨q.cell h0.1 (fun g => g), q.cell h0.2.2.1 (fun g => g), q.cell h0.2.2.2 (fun g => g)⟩, q.cell h1.2.2.1 (fun g => g), q.cell h1.2.2.2 (fun g => g)⟩
 have HCP : Hid (∀ W, Oz w W → Cz 21 #[.slice a0 L0 c0] W fun e w' => ∃ a2 c2, e = .returned (.slice a2 L0 c2) ∧ Hid ((∃ S', RwAt w' W.heap.size S' d (.slice a2 L0 c2) x.l ∧ ∀ b, S' b → W.heap.size ≤ b) ∧ Oz W w')) := fun W q => by
  rw [hL0]
  refine (rcopyall_all d _ x.l W S (hx.only q) (by omega) hsm).mono fun e w' g => ?_
  obtain ⟨a2, c2, he, g⟩ := g
  obtain ⟨S', r1, r2⟩ := g.out.1.rw
  exact ⟨a2, c2, he, ⟨S', r1, r2⟩, g.out.2⟩
 have HY : Hid (∀ W, Oz w W → VsAt W S (d + 1) y.l (.slice a1 L1 c1)) := fun W q => by rw [hL1]; exact hy.only q
 have HF : Hid (∀ (W w6 : World) (a6 : Option Addr) (c6 : Nat) (S6 : Nat → Prop) (Q : Nat), Oz w w6 → RwAt w6 W.heap.size S6 d (.slice a6 (L0 + L1) c6) (x.l ++ y.l) → ∀ w7, Oz w6 w7 → w7.heap[Q]? = some (.cells #[.int .i64 xk, .int .i64 0, .string (xs ++ ys), .slice a6 (L0 + L1) c6] 38) → DcP (oneR (.ok X)) (d + 2) w (.returned (.tuple #[.slice (some ⟨Q, 0, none⟩) 1 1, .int .i64 0])) w7) := fun W w6 a6 c6 S6 Q o6 h6 w7 o7 hb => by
  rw [hX]
  rw [hxk, hxs, hys] at hb
  exact dc_q (t := ⟨x.k, 0, x.s ++ y.s, x.l ++ y.l⟩) hb (h6.vs.only o7) (o6.trans o7 (fun _ _ g => g))
 have HL : Hid (L0 = x.l.length ∧ L1 = y.l.length ∧ L0 ≤ 10000 ∧ L1 ≤ 10000 ∧ ∀ b, S b → b < w.heap.size) := ⟨hL0, hL1, by omega, by omega, hS⟩
 have hsz : xs.size + ys.size ≤ 9223372036854775807 := by rw [hxs, hys]; omega
 have hadd : ∀ W : World, (Op.stringOp BinOp.add xs ys).run Tryz.prog W = .ok (.string (xs ++ ys)) W := fun W => sadd xs ys hsz W
 have O0 : Hid (Oz w w) := Only.refl _ _
 obtain ⟨⟨x0, x2, x3⟩, y2, y3⟩ := HC.out w (Only.refl _ _)
 rw [← hX]
 clear h0 h1 hx hy hS hsm hl hs hxk hxs hys hL0 hL1 hX
 go_enter Tryz.func42, Tryz.ntmps42
 go_wp2
 go_region_held3 (fun W => (W.cell? ⟨g, o, none⟩ = some (.int .i64 xk) ∧ W.cell? ⟨g, o + 2, none⟩ = some (.string xs) ∧ W.cell? ⟨g, o + 3, none⟩ = some (.slice a0 L0 c0)) ∧ (W.cell? ⟨g, o + 4 + 2, none⟩ = some (.string ys) ∧ W.cell? ⟨g, o + 4 + 3, none⟩ = some (.slice a1 L1 c1)))
  (first | with_reducible exact HC.out _ O0.out | with_reducible exact HC.out _ O0.out.drew | with_reducible exact HC.out _ O4.out | with_reducible exact HC.out _ O6.out | with_reducible exact HC.out _ (O6.out.alloc _))
  (first
   | (have h := O4; clear h; refine step_rw (by rfl) _ _ (by rfl) (by rfl) (by rfl) HR4.out.1 HR4.out.2.1 HR4.out.2.2.1 HR4.out.2.2.2.1 HR4.out.2.2.2.2.1 HR4.out.2.2.2.2.2 ?_; intro a6 c6 w6 hf; have O6 : Hid (Oz w w6) := HO4.out w6 hf.out.2)
   | (go_at_call 21; refine (show Cz 21 _ _ _ from HCP.out _ (by first | exact O0.out | exact O0.out.drew | exact O0.out.drew.drew)).mono ?_; rintro ex w4 ⟨a4, c4, rfl, G4⟩; have O4 : Hid (Oz w w4) := (by first | exact O0.out.drew.trans G4.out.2 (fun _ _ g => g) | exact O0.out.trans G4.out.2 (fun _ _ g => g)); obtain ⟨S4, r4, s4⟩ := G4.out.1; have HR4 : Hid (RwAt w4 _ S4 d (.slice a4 L0 c4) x.l ∧ VsAt w4 S (d + 1) y.l (.slice a1 L1 c1) ∧ (∀ b, S b → b < w4.heap.size ∧ (Value.slice a4 L0 c4).ownBlock ≠ some b) ∧ x.l.length ≤ 1048576 ∧ y.l.length ≤ 1048576 ∧ _ ≤ w4.heap.size) := ⟨r4, HY.out _ O4.out, fun b hb => ⟨Nat.lt_of_lt_of_le (HL.out.2.2.2.2 b hb) O4.out.size, fun e => by have := (r4.lt b e).1; have := HL.out.2.2.2.2 b hb; simp at *; omega⟩, by have := HL.out; omega, by have := HL.out; omega, G4.out.2.size⟩; have HO4 : Hid (∀ w6, Only (fun k => (Value.slice a4 L0 c4).ownBlock = some k) w4 w6 → Oz w w6) := fun w6 q => O4.out.trans q (fun b hb e => by have := (r4.lt b e).1; simp at *; omega); clear r4 s4 G4))
 all_goals
  go_wp2
  go_ret2
  first
   | exact HF.out _ w6 a6 c6 _ _ O6.out hf.out.1 _ ((Only.refl _ w6).alloc _) (valloc_at _ _ _ rfl)
   | exact HF.out _ w6 a6 c6 _ _ O6.out hf.out.1 _ ((Only.refl _ w6).alloc _).drew (valloc_at w6 _ _ rfl)
theorem rro_compose (g o c : Nat) (x y : Vt) (a0 a1 : Option Addr) (c0 c1 d : Nat) (S : Nat → Prop) (w : World) (h0 : V4 w g o x.k x.n x.s (.slice a0 x.l.length c0)) (h1 : V4 w g (o + 4) y.k y.n y.s (.slice a1 y.l.length c1)) (hx : VsAt w S (d + 1) x.l (.slice a0 x.l.length c0)) (hy : VsAt w S (d + 1) y.l (.slice a1 y.l.length c1)) (hS : ∀ b, S b → b < w.heap.size) (hsm : ∀ z ∈ x.l, ∃ e, SmT e z) (hl : x.l.length ≤ 10000 ∧ y.l.length ≤ 10000) (hs : x.s.size ≤ 4096 ∧ y.s.size ≤ 4096) :
  Cz 42 #[.string ⟨#[99, 111, 109, 112, 111, 115, 101]⟩, .slice (some ⟨g, o, none⟩) 2 c] w fun e w' => DcP (oneR (.ok ⟨x.k, 0, x.s ++ y.s, x.l ++ y.l⟩)) (d + 2) w e w' := by
 obtain ⟨xk, hxk⟩ : ∃ k, k = x.k := ⟨_, rfl⟩
 obtain ⟨xs, hxs⟩ : ∃ k, k = x.s := ⟨_, rfl⟩
 obtain ⟨ys, hys⟩ : ∃ k, k = y.s := ⟨_, rfl⟩
 obtain ⟨L0, hL0⟩ : ∃ k, k = x.l.length := ⟨_, rfl⟩
 obtain ⟨L1, hL1⟩ : ∃ k, k = y.l.length := ⟨_, rfl⟩
 obtain ⟨X, hX⟩ : ∃ X : Vt, X = ⟨x.k, 0, x.s ++ y.s, x.l ++ y.l⟩ := ⟨_, rfl⟩
 have HC : Hid (∀ W, Oz w W → (W.cell? ⟨g, o, none⟩ = some (.int .i64 xk) ∧ W.cell? ⟨g, o + 2, none⟩ = some (.string xs) ∧ W.cell? ⟨g, o + 3, none⟩ = some (.slice a0 L0 c0)) ∧ (W.cell? ⟨g, o + 4 + 2, none⟩ = some (.string ys) ∧ W.cell? ⟨g, o + 4 + 3, none⟩ = some (.slice a1 L1 c1))) := fun W q => by
  rw [hxk, hxs, hys, hL0, hL1]
  exact ⟨⟨q.cell h0.1 (fun g => g), q.cell h0.2.2.1 (fun g => g), q.cell h0.2.2.2 (fun g => g)⟩, q.cell h1.2.2.1 (fun g => g), q.cell h1.2.2.2 (fun g => g)⟩
 have HCP : Hid (∀ W, Oz w W → Cz 21 #[.slice a0 L0 c0] W fun e w' => ∃ a2 c2, e = .returned (.slice a2 L0 c2) ∧ Hid ((∃ S', RwAt w' W.heap.size S' d (.slice a2 L0 c2) x.l ∧ ∀ b, S' b → W.heap.size ≤ b) ∧ Oz W w')) := fun W q => by
  rw [hL0]
  refine (rcopyall_all d _ x.l W S (hx.only q) (by omega) hsm).mono fun e w' g => ?_
  obtain ⟨a2, c2, he, g⟩ := g
  obtain ⟨S', r1, r2⟩ := g.out.1.rw
  exact ⟨a2, c2, he, ⟨S', r1, r2⟩, g.out.2⟩
 have HY : Hid (∀ W, Oz w W → VsAt W S (d + 1) y.l (.slice a1 L1 c1)) := fun W q => by rw [hL1]; exact hy.only q
 have HF : Hid (∀ (W w6 : World) (a6 : Option Addr) (c6 : Nat) (S6 : Nat → Prop) (Q : Nat), Oz w w6 → RwAt w6 W.heap.size S6 d (.slice a6 (L0 + L1) c6) (x.l ++ y.l) → ∀ w7, Oz w6 w7 → w7.heap[Q]? = some (.cells #[.int .i64 xk, .int .i64 0, .string (xs ++ ys), .slice a6 (L0 + L1) c6] 38) → DcP (oneR (.ok X)) (d + 2) w (.returned (.tuple #[.slice (some ⟨Q, 0, none⟩) 1 1, .int .i64 0])) w7) := fun W w6 a6 c6 S6 Q o6 h6 w7 o7 hb => by
  rw [hX]
  rw [hxk, hxs, hys] at hb
  exact dc_q (t := ⟨x.k, 0, x.s ++ y.s, x.l ++ y.l⟩) hb (h6.vs.only o7) (o6.trans o7 (fun _ _ g => g))
 have HL : Hid (L0 = x.l.length ∧ L1 = y.l.length ∧ L0 ≤ 10000 ∧ L1 ≤ 10000 ∧ ∀ b, S b → b < w.heap.size) := ⟨hL0, hL1, by omega, by omega, hS⟩
 have hsz : xs.size + ys.size ≤ 9223372036854775807 := by rw [hxs, hys]; omega
 have hadd : ∀ W : World, (Op.stringOp BinOp.add xs ys).run Tryz.prog W = .ok (.string (xs ++ ys)) W := fun W => sadd xs ys hsz W
 have O0 : Hid (Oz w w) := Only.refl _ _
 obtain ⟨⟨x0, x2, x3⟩, y2, y3⟩ := HC.out w (Only.refl _ _)
 rw [← hX]
 clear h0 h1 hx hy hS hsm hl hs hxk hxs hys hL0 hL1 hX
 go_enter Tryz.func42, Tryz.ntmps42
 go_wp2
 go_region_held3 (fun W => (W.cell? ⟨g, o, none⟩ = some (.int .i64 xk) ∧ W.cell? ⟨g, o + 2, none⟩ = some (.string xs) ∧ W.cell? ⟨g, o + 3, none⟩ = some (.slice a0 L0 c0)) ∧ (W.cell? ⟨g, o + 4 + 2, none⟩ = some (.string ys) ∧ W.cell? ⟨g, o + 4 + 3, none⟩ = some (.slice a1 L1 c1)))
  (first | with_reducible exact HC.out _ O0.out | with_reducible exact HC.out _ O0.out.drew | with_reducible exact HC.out _ O4.out | with_reducible exact HC.out _ O6.out | with_reducible exact HC.out _ (O6.out.alloc _))
  (first
   | (have h := O4; clear h; refine step_rw (by rfl) _ _ (by rfl) (by rfl) (by rfl) HR4.out.1 HR4.out.2.1 HR4.out.2.2.1 HR4.out.2.2.2.1 HR4.out.2.2.2.2.1 HR4.out.2.2.2.2.2 ?_; intro a6 c6 w6 hf; have O6 : Hid (Oz w w6) := HO4.out w6 hf.out.2)
   | (go_at_call 21; refine (show Cz 21 _ _ _ from HCP.out _ (by first | exact O0.out | exact O0.out.drew | exact O0.out.drew.drew)).mono ?_; rintro ex w4 ⟨a4, c4, rfl, G4⟩; have O4 : Hid (Oz w w4) := (by first | exact O0.out.drew.trans G4.out.2 (fun _ _ g => g) | exact O0.out.trans G4.out.2 (fun _ _ g => g)); obtain ⟨S4, r4, s4⟩ := G4.out.1; have HR4 : Hid (RwAt w4 _ S4 d (.slice a4 L0 c4) x.l ∧ VsAt w4 S (d + 1) y.l (.slice a1 L1 c1) ∧ (∀ b, S b → b < w4.heap.size ∧ (Value.slice a4 L0 c4).ownBlock ≠ some b) ∧ x.l.length ≤ 1048576 ∧ y.l.length ≤ 1048576 ∧ _ ≤ w4.heap.size) := ⟨r4, HY.out _ O4.out, fun b hb => ⟨Nat.lt_of_lt_of_le (HL.out.2.2.2.2 b hb) O4.out.size, fun e => by have := (r4.lt b e).1; have := HL.out.2.2.2.2 b hb; simp at *; omega⟩, by have := HL.out; omega, by have := HL.out; omega, G4.out.2.size⟩; have HO4 : Hid (∀ w6, Only (fun k => (Value.slice a4 L0 c4).ownBlock = some k) w4 w6 → Oz w w6) := fun w6 q => O4.out.trans q (fun b hb e => by have := (r4.lt b e).1; simp at *; omega); clear r4 s4 G4))
 all_goals
  go_wp2
  go_ret2
  first
   | exact HF.out _ w6 a6 c6 _ _ O6.out hf.out.1 _ ((Only.refl _ w6).alloc _) (valloc_at _ _ _ rfl)
   | exact HF.out _ w6 a6 c6 _ _ O6.out hf.out.1 _ ((Only.refl _ w6).alloc _).drew (valloc_at w6 _ _ rfl)
theorem rnum_le (nt : Nat) : ∀ (l : List Nat) (n : Nat), n ≤ 1152921504606846977 → (rnum nt l n).1 ≤ 1152921504606846977
 | [], n, h => h
 | c :: l, n, h => by
   rw [rnum]
   split
   ·exact Nat.zero_le _
   ·exact rnum_le nt l _ (by omega)
theorem rnumL_le (l : List Nat) : (rnumL l).1 ≤ 1152921504606846977 := by
 unfold rnumL
 cases rrest l with
 | nil => exact Nat.zero_le _
 | cons c r =>
   rw [rnumM]
   split
   ·exact Nat.zero_le _
   ·exact rnum_le _ _ _ (Nat.zero_le _)
theorem rNumber_any (s : ByteArray) (hs : s.size ≤ 268435456) (w : World) :
  Cz 72 #[.string s] w fun e w' => e = .returned (.tuple #[.int .i64 (numR s).1, .int .i64 (numR s).2]) ∧ Oz w w' := by
 have HC : Hid (Cz 95 #[.string s] w fun e w' => ∃ v, e = .returned v ∧ Hid (ChrAt w' w.heap.size v (chrL s) ∧ Below w.heap.size w w')) := chars_any s hs w
 have HN : Hid (∀ v w1, RdC w1 v (chrL s) → Cz 101 #[v] w1 fun e w' => e = .returned (rnV (rnumL (rns s))) ∧ Oz w1 w') := fun v w1 h => by
  have := rnumber_any (chrL s) (by have := chrL_len s; omega) v w1 h
  rwa [chr_runes] at this
 have hle := rnumL_le (rns s)
 have hsame := (num_same s).1
 unfold rNumR at hsame
 rw [← hsame]
 obtain ⟨x, hx⟩ : ∃ x, x = rnumL (rns s) := ⟨_, rfl⟩
 rw [← hx] at HN hle ⊢
 clear hx hsame
 obtain ⟨n, mn, ok⟩ := x
 dsimp only at hle ⊢
 simp only [rnV] at HN
 obtain ⟨Z, hZ⟩ : ∃ Z : Int × Int, Z = if ok = false then (0, 9) else if mn = true ∧ n ≤ 1152921504606846976 then (-(n : Int), 0) else if 1152921504606846975 < n then (0, 11) else ((n : Int), 0) := ⟨_, rfl⟩
 have HZ : Hid (Z = if ok = false then (0, 9) else if mn = true ∧ n ≤ 1152921504606846976 then (-(n : Int), 0) else if 1152921504606846975 < n then (0, 11) else ((n : Int), 0)) := hZ
 rw [← hZ]
 clear hZ
 go_enter Tryz.func72, Tryz.ntmps72
 go_wp2_with fail
 refine (show Cz 95 _ _ _ from HC.out).mono ?_
 rintro e w1 ⟨v, rfl, g⟩
 have O1 : Hid (Oz w w1) := below_only g.out.2
 have T1 : Hid (RdC w1 v (chrL s)) := rdc_chr g.out.1
 clear HC g
 go_wp2_with fail
 refine (show Cz 101 _ _ _ from HN.out _ _ T1.out).mono ?_
 rintro e2 w2 ⟨rfl, o2⟩
 have O2 : Hid (Oz w w2) := O1.out.trans o2 (fun _ _ x => x)
 clear HN T1 O1 o2
 cases ok with
 | false =>
   have HE : Hid (Z = (0, 9)) := by
    show Z = _
    rw [HZ.out, if_pos rfl]
   clear HZ
   go_wp2
   go_ret2
   exact ⟨by rw [show Z = _ from HE.out]; rfl, O2.out⟩
 | true =>
   cases mn with
   | true =>
     by_cases h1 : n ≤ 1152921504606846976
     ·have HE : Hid (Z = (-(n : Int), 0)) := by
       show Z = _
       rw [HZ.out, if_neg (by simp), if_pos ⟨rfl, h1⟩]
      have i1 : (n : Int) ≤ 1152921504606846976 := by omega
      have r1 : IntKind.i64.wrap (n : Int) = (n : Int) := by rw [IntKind.wrap_i64]; omega
      have r2 : IntKind.i64.wrap (-(n : Int)) = -(n : Int) := by rw [IntKind.wrap_i64]; omega
      clear HZ
      go_wp2
      go_ret2
      exact ⟨by rw [show Z = _ from HE.out]; rfl, O2.out⟩
     ·have HE : Hid (Z = (0, 11)) := by
       show Z = _
       rw [HZ.out, if_neg (by simp), if_neg (fun g => h1 g.2), if_pos (by omega)]
      have i1 : decide ((n : Int) ≤ 1152921504606846976) = false := decide_eq_false (by omega)
      have i2 : (1152921504606846975 : Int) < (n : Int) := by omega
      clear HZ
      go_wp2
      go_ret2
      exact ⟨by rw [show Z = _ from HE.out]; rfl, O2.out⟩
   | false =>
     by_cases h1 : 1152921504606846975 < n
     ·have HE : Hid (Z = (0, 11)) := by
       show Z = _
       rw [HZ.out, if_neg (by simp), if_neg (fun g => by simp at g), if_pos h1]
      have i2 : (1152921504606846975 : Int) < (n : Int) := by omega
      clear HZ
      go_wp2
      go_ret2
      exact ⟨by rw [show Z = _ from HE.out]; rfl, O2.out⟩
     ·have HE : Hid (Z = ((n : Int), 0)) := by
       show Z = _
       rw [HZ.out, if_neg (by simp), if_neg (fun g => by simp at g), if_neg h1]
      have i2 : decide ((1152921504606846975 : Int) < (n : Int)) = false := decide_eq_false (by omega)
      have r1 : IntKind.i64.wrap (n : Int) = (n : Int) := by rw [IntKind.wrap_i64]; omega
      clear HZ
      go_wp2
      go_ret2
      exact ⟨by rw [show Z = _ from HE.out]; rfl, O2.out⟩
theorem rro_rev (g o c : Nat) (x t : Vt) (a0 : Option Addr) (L0 c0 D : Nat) (w : World) (h0 : V4 w g o x.k x.n x.s (.slice a0 L0 c0)) (HR0 : ∀ W, Oz w W → Cz 70 #[.agg #[.int .i64 x.k, .int .i64 x.n, .string x.s, .slice a0 L0 c0]] W fun e w' => ∃ a2 n2 c2, e = .returned (.agg #[.int .i64 t.k, .int .i64 t.n, .string t.s, .slice a2 n2 c2]) ∧ Hid ((∃ S', VsAt w' S' D t.l (.slice a2 n2 c2)) ∧ Oz W w')) :
  Cz 42 #[.string ⟨#[114, 101, 118, 101, 114, 115, 101]⟩, .slice (some ⟨g, o, none⟩) 1 c] w fun e w' => DcP (oneR (.ok t)) (D + 1) w e w' := by
 obtain ⟨xk, hxk⟩ : ∃ k, k = x.k := ⟨_, rfl⟩
 obtain ⟨xn, hxn⟩ : ∃ k, k = x.n := ⟨_, rfl⟩
 obtain ⟨xs, hxs⟩ : ∃ k, k = x.s := ⟨_, rfl⟩
 rw [← hxk, ← hxn, ← hxs] at h0 HR0
 have HR : Hid _ := HR0
 have O0 : Hid (Oz w w) := Only.refl _ _
 obtain ⟨x0, x1, x2, x3⟩ := h0
 have HF : Hid (∀ (w1 w2 : World) (Q : Nat) (a2 : Option Addr) (n2 c2 : Nat), Hid ((∃ S', VsAt w1 S' D t.l (.slice a2 n2 c2)) ∧ Oz w w1) → Oz w1 w2 → w2.heap[Q]? = some (.cells #[.int .i64 t.k, .int .i64 t.n, .string t.s, .slice a2 n2 c2] 38) → DcP (oneR (.ok t)) (D + 1) w (.returned (.tuple #[.slice (some ⟨Q, 0, none⟩) 1 1, .int .i64 0])) w2) := fun w1 w2 Q a2 n2 c2 h o hb => by
  obtain ⟨⟨S', h1⟩, h2⟩ := h.out
  exact dc_q hb (h1.only o) (h2.trans o (fun _ _ g => g))
 clear HR0 hxk hxn hxs
 go_enter Tryz.func42, Tryz.ntmps42
 go_wp2_with fail
 refine (show Cz 70 _ _ _ from HR.out _ O0.out).mono ?_
 rintro e w1 ⟨a2, n2, c2, rfl, G1⟩
 obtain ⟨W, hW⟩ : ∃ W, W = w1.alloc (.cells #[.int .i64 t.k, .int .i64 t.n, .string t.s, .slice a2 n2 c2] 38) := ⟨_, rfl⟩
 have HP : Hid (DcP (oneR (.ok t)) (D + 1) w (.returned (.tuple #[.slice (some ⟨w1.heap.size, 0, none⟩) 1 1, .int .i64 0])) W) := HF.out w1 W _ a2 n2 c2 G1 (by rw [hW]; exact (Only.refl _ _).alloc _) (by rw [hW]; exact valloc_at _ _ _ rfl)
 clear HF HR G1 O0
 go_wp2
 rw [← hW]
 go_ret2
 exact HP.out
theorem rro_told (g o c : Nat) (x : Vt) (q : ByteArray) (a0 : Option Addr) (L0 c0 : Nat) (w : World) (h0 : V4 w g o x.k x.n x.s (.slice a0 L0 c0)) (HR0 : ∀ W, Oz w W → Cz 71 #[.agg #[.int .i64 x.k, .int .i64 x.n, .string x.s, .slice a0 L0 c0]] W fun e w' => e = .returned (.string q) ∧ Oz W w') :
  Cz 42 #[.string ⟨#[62, 115, 116, 114]⟩, .slice (some ⟨g, o, none⟩) 1 c] w fun e w' => DcP (oneR (.ok (stT q))) 2 w e w' := by
 obtain ⟨xk, hxk⟩ : ∃ k, k = x.k := ⟨_, rfl⟩
 obtain ⟨xn, hxn⟩ : ∃ k, k = x.n := ⟨_, rfl⟩
 obtain ⟨xs, hxs⟩ : ∃ k, k = x.s := ⟨_, rfl⟩
 rw [← hxk, ← hxn, ← hxs] at h0 HR0
 have HR : Hid _ := HR0
 have HN : Hid (∀ w, Cz 67 #[.string q] w fun e w' => R1P (stT q) w e w') := str_any q
 have O0 : Hid (Oz w w) := Only.refl _ _
 obtain ⟨x0, x1, x2, x3⟩ := h0
 clear HR0 hxk hxn hxs
 go_enter Tryz.func42, Tryz.ntmps42
 go_wp2_with fail
 refine (show Cz 71 _ _ _ from HR.out _ O0.out).mono ?_
 rintro e w1 ⟨rfl, o1⟩
 have O1 : Hid (Oz w w1) := o1
 clear HR o1 O0
 go_wp2_with fail
 refine (show Cz 67 _ _ _ from HN.out _).mono ?_
 rintro e w2 ⟨a2, c2, rfl, G2⟩
 clear HN
 go_wp2
 go_ret2
 exact dc_1 G2 O1.out
theorem rro_int (g o c : Nat) (s : ByteArray) (hs : s.size ≤ 268435456) (w : World) (h0 : w.cell? ⟨g, o + 2, none⟩ = some (.string s)) :
  Cz 42 #[.string ⟨#[62, 105, 110, 116]⟩, .slice (some ⟨g, o, none⟩) 1 c] w fun e w' => DcP (oneR (if (numR s).2 = 0 then .ok (inT (numR s).1) else .error (numR s).2)) 2 w e w' := by
 have HR : Hid (Cz 72 #[.string s] w fun e w' => e = .returned (.tuple #[.int .i64 (numR s).1, .int .i64 (numR s).2]) ∧ Oz w w') := rNumber_any s hs w
 obtain ⟨n, hn⟩ : ∃ n, n = (numR s).1 := ⟨_, rfl⟩
 obtain ⟨z, hz⟩ : ∃ z, z = (numR s).2 := ⟨_, rfl⟩
 rw [← hn, ← hz] at HR ⊢
 have HN : Hid (∀ w, Cz 65 #[.int .i64 n] w fun e w' => R1P (inT n) w e w') := num_any n
 clear hs hn hz
 by_cases hz0 : z = 0
 ·rw [if_pos hz0]
  subst hz0
  go_enter Tryz.func42, Tryz.ntmps42
  go_wp2_with fail
  refine (show Cz 72 _ _ _ from HR.out).mono ?_
  rintro e w1 ⟨rfl, o1⟩
  have O1 : Hid (Oz w w1) := o1
  clear HR o1
  go_wp2_with fail
  refine (show Cz 65 _ _ _ from HN.out _).mono ?_
  rintro e w2 ⟨a2, c2, rfl, G2⟩
  clear HN
  go_wp2
  go_ret2
  exact dc_1 G2 O1.out
 ·rw [if_neg hz0]
  have HZ : Hid (¬ z = 0) := hz0
  have hb : (z != 0) = true := by simpa using hz0
  go_enter Tryz.func42, Tryz.ntmps42
  go_wp2_with fail
  refine (show Cz 72 _ _ _ from HR.out).mono ?_
  rintro e w1 ⟨rfl, o1⟩
  have O1 : Hid (Oz w w1) := o1
  clear HR o1
  go_wp2
  go_ret2
  exact dc_er HZ.out O1.out
theorem rro_curry (g o c : Nat) (x y : Vt) (a0 a1 : Option Addr) (c0 c1 d : Nat) (S : Nat → Prop) (w : World) (h0 : V4 w g o x.k x.n x.s (.slice a0 x.l.length c0)) (h1 : V4 w g (o + 4) y.k y.n y.s (.slice a1 y.l.length c1)) (hx : VsAt w S (d + 1) x.l (.slice a0 x.l.length c0)) (hy : VsAt w S (d + 2) y.l (.slice a1 y.l.length c1)) (hS : ∀ b, S b → b < w.heap.size) (hl : y.l.length ≤ 10000) :
  Cz 42 #[.string ⟨#[99, 117, 114, 114, 121]⟩, .slice (some ⟨g, o, none⟩) 2 c] w fun e w' => DcP (oneR (.ok ⟨5, 0, ⟨#[]⟩, x :: y.l⟩)) (d + 3) w e w' := by
 obtain ⟨xk, hxk⟩ : ∃ k, k = x.k := ⟨_, rfl⟩
 obtain ⟨xn, hxn⟩ : ∃ k, k = x.n := ⟨_, rfl⟩
 obtain ⟨xs, hxs⟩ : ∃ k, k = x.s := ⟨_, rfl⟩
 obtain ⟨L0, hL0⟩ : ∃ k, k = x.l.length := ⟨_, rfl⟩
 obtain ⟨L1, hL1⟩ : ∃ k, k = y.l.length := ⟨_, rfl⟩
 obtain ⟨x0, x1, x2, x3⟩ := h0
 obtain ⟨_, _, _, y3⟩ := h1
 have HBX : Hid (∀ X Q, Oz w X → X.heap[Q]? = some (.cells #[.int .i64 xk, .int .i64 xn, .string xs, .slice a0 L0 c0] 38) → w.heap.size ≤ Q → Q < X.heap.size → RwAt X w.heap.size S (d + 1) (.slice (some ⟨Q, 0, none⟩) 1 1) [x] ∧ VsAt X S (d + 1 + 1) y.l (.slice a1 L1 c1) ∧ (∀ b, S b → b < X.heap.size ∧ (Value.slice (some ⟨Q, 0, none⟩) 1 1).ownBlock ≠ some b) ∧ [x].length ≤ 1048576 ∧ y.l.length ≤ 1048576 ∧ w.heap.size ≤ X.heap.size) := fun X Q q hb hQ hQ2 => by
  rw [hxk, hxn, hxs, hL0] at hb
  have hoS : ∀ b, S b → b < X.heap.size ∧ (Value.slice (some ⟨Q, 0, none⟩) 1 1).ownBlock ≠ some b := fun b hb => ⟨Nat.lt_of_lt_of_le (hS b hb) q.size, fun e => by injection e with e; have e : Q = b := e; have := hS b hb; omega⟩
  refine ⟨⟨[.int .i64 x.k, .int .i64 x.n, .string x.s, .slice a0 x.l.length c0], ⟨rfl, .inr ⟨Q, 1, _, rfl, hQ, hb, Nat.le_refl _, by unfold maxLen; omega, rfl, rfl⟩⟩, fun j z hz => ?_, hoS⟩, by rw [hL1]; exact hy.only q, hoS, by simp, by omega, q.size⟩
  have hj : j = 0 := by have := (List.getElem?_eq_some_iff.1 hz).1; simp at this; exact this
  subst hj
  simp at hz
  subst hz
  exact ⟨_, ⟨rfl, rfl, rfl, rfl⟩, hx.only q⟩
 have HF : Hid (∀ (w6 : World) (a6 : Option Addr) (c6 : Nat) (S6 : Nat → Prop) (Q : Nat), Oz w w6 → RwAt w6 w.heap.size S6 (d + 1) (.slice a6 (1 + L1) c6) ([x] ++ y.l) → ∀ w7, Oz w6 w7 → w7.heap[Q]? = some (.cells #[.int .i64 5, .int .i64 0, .string ⟨#[]⟩, .slice a6 (1 + L1) c6] 38) → DcP (oneR (.ok ⟨5, 0, ⟨#[]⟩, x :: y.l⟩)) (d + 3) w (.returned (.tuple #[.slice (some ⟨Q, 0, none⟩) 1 1, .int .i64 0])) w7) := fun w6 a6 c6 S6 Q o6 h6 w7 o7 hb => dc_q (t := ⟨5, 0, ⟨#[]⟩, x :: y.l⟩) hb (h6.vs.only o7) (o6.trans o7 (fun _ _ g => g))
 obtain ⟨T, hT⟩ : ∃ T : Vt, T = ⟨5, 0, ⟨#[]⟩, x :: y.l⟩ := ⟨_, rfl⟩
 rw [← hT] at HF ⊢
 rw [← hxk] at x0
 rw [← hxn] at x1
 rw [← hxs] at x2
 rw [← hL0] at x3
 rw [← hL1] at y3
 have oX : Oz w (w.alloc (.cells #[.int .i64 xk, .int .i64 xn, .string xs, .slice a0 L0 c0] 38)).drew := ((Only.refl _ w).alloc _).drew
 have HQ : Hid _ := HBX.out (w.alloc (.cells #[.int .i64 xk, .int .i64 xn, .string xs, .slice a0 L0 c0] 38)).drew w.heap.size oX (valloc_at w _ _ rfl) (Nat.le_refl _) (by show w.heap.size < (w.alloc _).heap.size; simp)
 have HO : Hid (∀ w6, Only (fun k => (Value.slice (some ⟨w.heap.size, 0, none⟩) 1 1).ownBlock = some k) (w.alloc (.cells #[.int .i64 xk, .int .i64 xn, .string xs, .slice a0 L0 c0] 38)).drew w6 → Oz w w6) := fun w6 q => oX.trans q (fun b hb e => by injection e with e; have e : w.heap.size = b := e; omega)
 have d0 : w.drew.cell? ⟨g, o, none⟩ = some (.int .i64 xk) := x0
 have d1 : w.drew.cell? ⟨g, o + 1, none⟩ = some (.int .i64 xn) := x1
 have d2 : w.drew.cell? ⟨g, o + 2, none⟩ = some (.string xs) := x2
 have d3 : w.drew.cell? ⟨g, o + 3, none⟩ = some (.slice a0 L0 c0) := x3
 have d4 : w.drew.cell? ⟨g, o + 4 + 3, none⟩ = some (.slice a1 L1 c1) := y3
 have e4 : (w.alloc (.cells #[.int .i64 xk, .int .i64 xn, .string xs, .slice a0 L0 c0] 38)).drew.cell? ⟨g, o + 4 + 3, none⟩ = some (.slice a1 L1 c1) := oX.cell y3 (fun g => g)
 clear hx hy hS hl hxk hxn hxs hL0 hL1 HBX oX hT
 go_enter Tryz.func42, Tryz.ntmps42
 go_wp2
 go_region_law (refine step_rw (by rfl) _ _ (by rfl) (by rfl) (by rfl) HQ.out.1 HQ.out.2.1 HQ.out.2.2.1 HQ.out.2.2.2.1 HQ.out.2.2.2.2.1 HQ.out.2.2.2.2.2 ?_; intro a6 c6 w6 hf; have O6 := HO.out w6 hf.out.2)
 all_goals
  go_wp2
  go_ret2
  exact HF.out w6 a6 c6 _ _ O6 hf.out.1 _ ((Only.refl _ w6).alloc _) (valloc_at _ _ _ rfl)
theorem only_s4 {w W : World} (o : Oz w W) {B : Nat} (hB : w.heap.size ≤ B) (x0 x1 x2 x3 : Value) : Oz w ((((W.setCell ⟨B, 0, none⟩ x0).setCell ⟨B, 1, none⟩ x1).setCell ⟨B, 2, none⟩ x2).setCell ⟨B, 3, none⟩ x3) := o.trans (uonly4 x0 x1 x2 x3) (fun b h e => by omega)
theorem rro_slice_no (g o c : Nat) (n m : Int) (x : Vt) (a0 : Option Addr) (L0 c0 : Nat) (w : World) (h0 : w.cell? ⟨g, o + 1, none⟩ = some (.int .i64 n)) (h1 : w.cell? ⟨g, o + 4 + 1, none⟩ = some (.int .i64 m)) (h2 : V4 w g (o + 8) x.k x.n x.s (.slice a0 L0 c0)) (HR0 : ∀ W, Oz w W → Cz 69 #[.int .i64 n, .int .i64 m, .agg #[.int .i64 x.k, .int .i64 x.n, .string x.s, .slice a0 L0 c0]] W fun e w' => e = .returned (.tuple #[.agg #[.int .i64 0, .int .i64 0, .string ⟨#[]⟩, .slice none 0 0], .int .i64 4]) ∧ Oz W w') :
  Cz 42 #[.string ⟨#[115, 108, 105, 99, 101]⟩, .slice (some ⟨g, o, none⟩) 3 c] w fun e w' => DcP (oneR (.error 4)) 2 w e w' := by
 obtain ⟨xk, hxk⟩ : ∃ k, k = x.k := ⟨_, rfl⟩
 obtain ⟨xn, hxn⟩ : ∃ k, k = x.n := ⟨_, rfl⟩
 obtain ⟨xs, hxs⟩ : ∃ k, k = x.s := ⟨_, rfl⟩
 rw [← hxk, ← hxn, ← hxs] at h2 HR0
 have HR : Hid _ := HR0
 obtain ⟨x0, x1, x2, x3⟩ := h2
 have HC : Hid (∀ W, Oz w W → W.cell? ⟨g, o + 1, none⟩ = some (.int .i64 n) ∧ W.cell? ⟨g, o + 4 + 1, none⟩ = some (.int .i64 m) ∧ (W.cell? ⟨g, o + 8, none⟩ = some (.int .i64 xk) ∧ W.cell? ⟨g, o + 8 + 1, none⟩ = some (.int .i64 xn) ∧ W.cell? ⟨g, o + 8 + 2, none⟩ = some (.string xs) ∧ W.cell? ⟨g, o + 8 + 3, none⟩ = some (.slice a0 L0 c0))) := fun W q => ⟨q.cell h0 (fun g => g), q.cell h1 (fun g => g), q.cell x0 (fun g => g), q.cell x1 (fun g => g), q.cell x2 (fun g => g), q.cell x3 (fun g => g)⟩
 have O0 : Hid (Oz w w) := Only.refl _ _
 clear HR0 hxk hxn hxs
 go_enter Tryz.func42, Tryz.ntmps42
 go_wp2
 go_region_held3 (fun W => W.cell? ⟨g, o + 1, none⟩ = some (.int .i64 n) ∧ W.cell? ⟨g, o + 4 + 1, none⟩ = some (.int .i64 m) ∧ (W.cell? ⟨g, o + 8, none⟩ = some (.int .i64 xk) ∧ W.cell? ⟨g, o + 8 + 1, none⟩ = some (.int .i64 xn) ∧ W.cell? ⟨g, o + 8 + 2, none⟩ = some (.string xs) ∧ W.cell? ⟨g, o + 8 + 3, none⟩ = some (.slice a0 L0 c0)))
  (first | with_reducible exact HC.out _ O0.out | with_reducible exact HC.out _ O0.out.drew | with_reducible exact HC.out _ (O0.out.alloc _) | with_reducible exact HC.out _ (O0.out.alloc _).drew | with_reducible exact HC.out _ O4.out | with_reducible exact HC.out _ (O4.out.alloc _) | with_reducible exact HC.out _ (only_s4 O4.out (Nat.le_refl _) _ _ _ _) | with_reducible exact HC.out _ (only_s4 (O4.out.alloc _) O4.out.size _ _ _ _))
  (first
  | (go_at_call 69; refine (show Cz 69 _ _ _ from HR.out _ (by first | exact O0.out | exact O0.out.drew)).mono ?_; rintro ex w4 ⟨rfl, o4⟩; have O4 : Hid (Oz w w4) := (by first | exact O0.out.drew.trans o4 (fun _ _ g => g) | exact O0.out.trans o4 (fun _ _ g => g)); clear o4)
  | (go_at_call 69; refine (show Cz 69 _ _ _ from HR.out _ (by first | exact (O0.out.alloc _).drew | exact O0.out.alloc _ | exact O0.out.drew.alloc _)).mono ?_; rintro ex w4 ⟨rfl, o4⟩; have b4 : w4.heap[w.heap.size]? = some (.cells #[.int .i64 0, .int .i64 0, .string ⟨#[]⟩, .slice none 0 0] 38) := (o4.block w.heap.size (by simp) (fun g => g)).trans (valloc_at _ _ _ rfl); have y0 := vblk_cells b4 0; have z0 := blk_froz b4 0; have y1 := vblk_cells b4 1; have z1 := blk_froz b4 1; have y2 := vblk_cells b4 2; have z2 := blk_froz b4 2; have y3 := vblk_cells b4 3; have z3 := blk_froz b4 3; simp only [List.getElem?_toArray, List.getElem?_cons_zero, List.getElem?_cons_succ] at y0 y1 y2 y3; have O4 : Hid (Oz w w4) := (by first | exact (O0.out.alloc _).drew.trans o4 (fun _ _ g => g) | exact (O0.out.alloc _).trans o4 (fun _ _ g => g)); clear o4))
 all_goals
  go_wp2
  go_ret2
  first
   | exact dc_er (by decide) (O4.out.alloc _)
   | exact dc_er (by decide) (O4.out.alloc _).drew
   | exact dc_er (by decide) (only_s4 O4.out (Nat.le_refl _) _ _ _ _)
   | exact dc_er (by decide) (only_s4 O4.out (Nat.le_refl _) _ _ _ _).drew
theorem rro_slice_ok (g o c : Nat) (n m : Int) (x t : Vt) (a0 : Option Addr) (L0 c0 D : Nat) (w : World) (h0 : w.cell? ⟨g, o + 1, none⟩ = some (.int .i64 n)) (h1 : w.cell? ⟨g, o + 4 + 1, none⟩ = some (.int .i64 m)) (h2 : V4 w g (o + 8) x.k x.n x.s (.slice a0 L0 c0)) (HR0 : ∀ W, Oz w W → Cz 69 #[.int .i64 n, .int .i64 m, .agg #[.int .i64 x.k, .int .i64 x.n, .string x.s, .slice a0 L0 c0]] W fun e w' => ∃ a2 n2 c2, e = .returned (.tuple #[.agg #[.int .i64 t.k, .int .i64 t.n, .string t.s, .slice a2 n2 c2], .int .i64 0]) ∧ Hid ((∃ S', VsAt w' S' D t.l (.slice a2 n2 c2) ∧ ∀ b, S' b → W.heap.size ≤ b) ∧ Oz W w')) :
  Cz 42 #[.string ⟨#[115, 108, 105, 99, 101]⟩, .slice (some ⟨g, o, none⟩) 3 c] w fun e w' => DcP (oneR (.ok t)) (D + 1) w e w' := by
 obtain ⟨xk, hxk⟩ : ∃ k, k = x.k := ⟨_, rfl⟩
 obtain ⟨xn, hxn⟩ : ∃ k, k = x.n := ⟨_, rfl⟩
 obtain ⟨xs, hxs⟩ : ∃ k, k = x.s := ⟨_, rfl⟩
 rw [← hxk, ← hxn, ← hxs] at h2 HR0
 have HR : Hid _ := HR0
 obtain ⟨x0, x1, x2, x3⟩ := h2
 have HC : Hid (∀ W, Oz w W → W.cell? ⟨g, o + 1, none⟩ = some (.int .i64 n) ∧ W.cell? ⟨g, o + 4 + 1, none⟩ = some (.int .i64 m) ∧ (W.cell? ⟨g, o + 8, none⟩ = some (.int .i64 xk) ∧ W.cell? ⟨g, o + 8 + 1, none⟩ = some (.int .i64 xn) ∧ W.cell? ⟨g, o + 8 + 2, none⟩ = some (.string xs) ∧ W.cell? ⟨g, o + 8 + 3, none⟩ = some (.slice a0 L0 c0))) := fun W q => ⟨q.cell h0 (fun g => g), q.cell h1 (fun g => g), q.cell x0 (fun g => g), q.cell x1 (fun g => g), q.cell x2 (fun g => g), q.cell x3 (fun g => g)⟩
 have O0 : Hid (Oz w w) := Only.refl _ _
 clear HR0 hxk hxn hxs
 obtain ⟨tk, htk⟩ : ∃ k, k = t.k := ⟨_, rfl⟩
 obtain ⟨tn, htn⟩ : ∃ k, k = t.n := ⟨_, rfl⟩
 obtain ⟨ts, hts⟩ : ∃ k, k = t.s := ⟨_, rfl⟩
 have HF : Hid (∀ (w1 w2 X : World) (Q B : Nat) (a2 : Option Addr) (n2 c2 : Nat) (N : Nat), (∃ S', VsAt w1 S' D t.l (.slice a2 n2 c2) ∧ ∀ b, S' b → N ≤ b) → Only (fun b => b = B ∧ b < N) w1 X → Oz w X → Oz X w2 → w2.heap[Q]? = some (.cells #[.int .i64 tk, .int .i64 tn, .string ts, .slice a2 n2 c2] 38) → DcP (oneR (.ok t)) (D + 1) w (.returned (.tuple #[.slice (some ⟨Q, 0, none⟩) 1 1, .int .i64 0])) w2) := fun w1 w2 X Q B a2 n2 c2 N h o1 o2 o hb => by
  obtain ⟨S', h1, h3⟩ := h
  rw [htk, htn, hts] at hb
  exact dc_q hb ((h1.step (fun _ g => g) (fun a u hs hc => o1.cell hc (fun e => by have := h3 _ hs; omega)) (Nat.le_refl _)).only o) (o2.trans o (fun _ _ g => g))
 rw [← htk, ← htn, ← hts] at HR
 obtain ⟨T, hT⟩ : ∃ T, T = t := ⟨_, rfl⟩
 rw [← hT]
 rw [← hT] at HF HR
 clear htk htn hts hT
 go_enter Tryz.func42, Tryz.ntmps42
 go_wp2
 go_region_held3 (fun W => W.cell? ⟨g, o + 1, none⟩ = some (.int .i64 n) ∧ W.cell? ⟨g, o + 4 + 1, none⟩ = some (.int .i64 m) ∧ (W.cell? ⟨g, o + 8, none⟩ = some (.int .i64 xk) ∧ W.cell? ⟨g, o + 8 + 1, none⟩ = some (.int .i64 xn) ∧ W.cell? ⟨g, o + 8 + 2, none⟩ = some (.string xs) ∧ W.cell? ⟨g, o + 8 + 3, none⟩ = some (.slice a0 L0 c0)))
  (first | with_reducible exact HC.out _ O0.out | with_reducible exact HC.out _ O0.out.drew | with_reducible exact HC.out _ (O0.out.alloc _) | with_reducible exact HC.out _ (O0.out.alloc _).drew | with_reducible exact HC.out _ O4.out | with_reducible exact HC.out _ (O4.out.alloc _) | with_reducible exact HC.out _ (only_s4 O4.out (Nat.le_refl _) _ _ _ _) | with_reducible exact HC.out _ (only_s4 (O4.out.alloc _) O4.out.size _ _ _ _))
  (first
  | (go_at_call 69; refine (show Cz 69 _ _ _ from HR.out _ (by first | exact O0.out | exact O0.out.drew)).mono ?_; rintro ex w4 ⟨a2, n2, c2, rfl, G4⟩; have O4 : Hid (Oz w w4) := (by first | exact O0.out.drew.trans G4.out.2 (fun _ _ g => g) | exact O0.out.trans G4.out.2 (fun _ _ g => g)); have K4 : Hid _ := G4.out.1; clear G4)
  | (go_at_call 69; refine (show Cz 69 _ _ _ from HR.out _ (by first | exact (O0.out.alloc _).drew | exact O0.out.alloc _ | exact O0.out.drew.alloc _)).mono ?_; rintro ex w4 ⟨a2, n2, c2, rfl, G4⟩; have b4 : w4.heap[w.heap.size]? = some (.cells #[.int .i64 0, .int .i64 0, .string ⟨#[]⟩, .slice none 0 0] 38) := (G4.out.2.block w.heap.size (by simp) (fun g => g)).trans (valloc_at _ _ _ rfl); have y0 := vblk_cells b4 0; have z0 := blk_froz b4 0; have y1 := vblk_cells b4 1; have z1 := blk_froz b4 1; have y2 := vblk_cells b4 2; have z2 := blk_froz b4 2; have y3 := vblk_cells b4 3; have z3 := blk_froz b4 3; simp only [List.getElem?_toArray, List.getElem?_cons_zero, List.getElem?_cons_succ] at y0 y1 y2 y3; have O4 : Hid (Oz w w4) := (by first | exact (O0.out.alloc _).drew.trans G4.out.2 (fun _ _ g => g) | exact (O0.out.alloc _).trans G4.out.2 (fun _ _ g => g)); have K4 : Hid _ := G4.out.1; clear G4))
 all_goals
  first
   | (have q4 := b4
      clear y0 y1 y2 y3 z0 z1 z2 z3 b4
      obtain ⟨k0, k1, k2, k3⟩ := set4 q4 rfl (.int .i64 tk) (.int .i64 tn) (.string ts) (.slice a2 n2 c2)
      have oX := @uonly4 w4 w.heap.size (.int .i64 tk) (.int .i64 tn) (.string ts) (.slice a2 n2 c2)
      have oW := only_s4 O4.out (Nat.le_refl _) (.int .i64 tk) (.int .i64 tn) (.string ts) (.slice a2 n2 c2)
      obtain ⟨X, hX⟩ : ∃ X, X = ((((w4.setCell ⟨w.heap.size, 0, none⟩ (.int .i64 tk)).setCell ⟨w.heap.size, 1, none⟩ (.int .i64 tn)).setCell ⟨w.heap.size, 2, none⟩ (.string ts)).setCell ⟨w.heap.size, 3, none⟩ (.slice a2 n2 c2)) := ⟨_, rfl⟩
      rw [← hX] at k0 k1 k2 k3 oX oW ⊢
      have HE : Hid (∀ w2 Q, Oz X w2 → w2.heap[Q]? = some (.cells #[.int .i64 tk, .int .i64 tn, .string ts, .slice a2 n2 c2] 38) → DcP (oneR (.ok T)) (D + 1) w (.returned (.tuple #[.slice (some ⟨Q, 0, none⟩) 1 1, .int .i64 0])) w2) := fun w2 Q o hb => HF.out w4 w2 X Q w.heap.size a2 n2 c2 (w.heap.size + 1) (by obtain ⟨S', p1, p2⟩ := K4.out; exact ⟨S', p1, fun b hb => by have := p2 b hb; simp at this; omega⟩) (oX.mono (fun b _ e => ⟨e, by omega⟩)) oW o hb
      clear hX oX oW q4 K4 O4 HF)
   | (have oW : Oz w (w4.alloc (.cells #[.int .i64 tk, .int .i64 tn, .string ts, .slice a2 n2 c2] 38)) := O4.out.alloc _
      have oX : Oz w4 (w4.alloc (.cells #[.int .i64 tk, .int .i64 tn, .string ts, .slice a2 n2 c2] 38)) := (Only.refl _ _).alloc _
      have kb : (w4.alloc (.cells #[.int .i64 tk, .int .i64 tn, .string ts, .slice a2 n2 c2] 38)).heap[w4.heap.size]? = some (.cells #[.int .i64 tk, .int .i64 tn, .string ts, .slice a2 n2 c2] 38) := valloc_at _ _ _ rfl
      have k0 := vblk_cells kb 0
      have k1 := vblk_cells kb 1
      have k2 := vblk_cells kb 2
      have k3 := vblk_cells kb 3
      simp only [List.getElem?_toArray, List.getElem?_cons_zero, List.getElem?_cons_succ] at k0 k1 k2 k3
      obtain ⟨X, hX⟩ : ∃ X, X = w4.alloc (.cells #[.int .i64 tk, .int .i64 tn, .string ts, .slice a2 n2 c2] 38) := ⟨_, rfl⟩
      rw [← hX] at k0 k1 k2 k3 oX oW ⊢
      have HE : Hid (∀ w2 Q, Oz X w2 → w2.heap[Q]? = some (.cells #[.int .i64 tk, .int .i64 tn, .string ts, .slice a2 n2 c2] 38) → DcP (oneR (.ok T)) (D + 1) w (.returned (.tuple #[.slice (some ⟨Q, 0, none⟩) 1 1, .int .i64 0])) w2) := fun w2 Q o hb => HF.out w4 w2 X Q 0 a2 n2 c2 0 (by obtain ⟨S', p1, p2⟩ := K4.out; exact ⟨S', p1, fun b hb => Nat.zero_le _⟩) (oX.mono (fun b _ e => e.elim)) oW o hb
      clear hX oX oW kb K4 O4 HF)
 all_goals
  clear HC HR O0 x0 x1 x2 x3 h0 h1
  go_wp2
  go_ret2
  first
   | exact HE.out _ _ ((Only.refl _ X).alloc _) (valloc_at _ _ _ rfl)
   | exact HE.out _ _ ((Only.refl _ X).alloc _).drew (valloc_at _ _ _ rfl)
   | exact HE.out _ _ (((Only.refl _ X).drew.alloc _)) (valloc_at _ _ _ rfl)
end Go.Proofs.YtenjollhlgjjdaaGreatDoor
