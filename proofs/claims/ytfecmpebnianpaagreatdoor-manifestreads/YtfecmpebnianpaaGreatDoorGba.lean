/- The document's Items. The document's reader of vocabularies: what it holds in memory. The document's Line, between vocabularies. -/
import Derived.Test.YtfecmpebnianpaaGreatDoorGaz
import Derived.Test.YtfecmpebnianpaaGreatDoorGal
import Derived.Test.YtfecmpebnianpaaGreatDoorGas
import Derived.OwnWalk
import Derived.Deep.RegionHeld3
import Derived.Deep.DrawnRows
namespace Go.Proofs.YtfecmpebnianpaaGreatDoor
open Go.RowKit
set_option linter.unusedSimpArgs false
set_option linter.unusedVariables false
/-- a row of trees made since C, whose parts lie ahead of C -/
def VrX (w : World) (B C d : Nat) (v : Value) (l : List Tre) : Prop :=
  ∃ us S, w.ownsRow C 100 4 v l.length us ∧ (∀ (j : Nat) (x : Tre), l[j]? = some x → ∃ lx, (us[j * 4]? = some (.int .i64 (x.k : Int)) ∧ us[j * 4 + 1]? = some (.int .i64 (vn x)) ∧ us[j * 4 + 2]? = some (.string (vs x)) ∧ us[j * 4 + 3]? = some lx) ∧ VtAt w S d x lx) ∧ (∀ b, S b → B ≤ b ∧ b < C) ∧ C ≤ w.heap.size
theorem VrX.at_ {w : World} {B C d : Nat} {v : Value} {l : List Tre} (h : VrX w B C d v l) (hB : B ≤ C) : VrAt w B d v l := by
  obtain ⟨us, S, ho, ht, hS, hC⟩ := h
  refine ⟨us, S, ⟨ho.1, ?_⟩, ht, fun b hb => ⟨(hS b hb).1, by have := (hS b hb).2; omega, fun e => by have := (ho.lt b e).1; have := (hS b hb).2; omega⟩⟩
  rcases ho.2 with h | ⟨g, cap, cur, h1, h2, h3⟩
  · exact .inl h
  · exact .inr ⟨g, cap, cur, h1, by omega, h3⟩
theorem VrX.snoc {w w' : World} {B C d : Nat} {v v' : Value} {l : List Tre} {t : Tre} {lv : Value} {us : List Value} {S S1 : Nat → Prop} (hg : w.grownBy w' v.ownBlock) (ho : w.ownsRow C 100 4 v l.length us) (ht : ∀ (j : Nat) (x : Tre), l[j]? = some x → ∃ lx, (us[j * 4]? = some (.int .i64 (x.k : Int)) ∧ us[j * 4 + 1]? = some (.int .i64 (vn x)) ∧ us[j * 4 + 2]? = some (.string (vs x)) ∧ us[j * 4 + 3]? = some lx) ∧ VtAt w S d x lx) (hS : ∀ b, S b → B ≤ b ∧ b < C) (hC : C ≤ w.heap.size) (t1 : VtAt w S1 d t lv) (s1 : ∀ b, S1 b → B ≤ b ∧ b < C) (ho' : w'.ownsRow C 100 4 v' (l.length + 1) (us ++ [.int .i64 (t.k : Int), .int .i64 (vn t), .string (vs t), lv])) : VrX w' B C d v' (l ++ [t]) := by
  have oo : Only (fun k => v.ownBlock = some k) w w' := (Only.refl _ w).grown hg (fun k e _ => e)
  have a1 : ∀ b, S b → ¬ v.ownBlock = some b := fun b h e => by have := (ho.lt b e).1; have := (hS b h).2; omega
  have a2 : ∀ b, S1 b → ¬ v.ownBlock = some b := fun b h e => by have := (ho.lt b e).1; have := (s1 b h).2; omega
  have hl : us.length = l.length * 4 := ho.1
  refine ⟨_, fun b => S b ∨ S1 b, by simpa using ho', fun j x hx => ?_, fun b hb => ?_, Nat.le_trans hC oo.size⟩
  · by_cases hj : j < l.length
    · rw [List.getElem?_append_left hj] at hx
      obtain ⟨lx, ⟨h0, h1, h2, h3⟩, h6⟩ := ht j x hx
      have ap : ∀ i u, us[i]? = some u → (us ++ [.int .i64 (t.k : Int), .int .i64 (vn t), .string (vs t), lv])[i]? = some u := fun i u hu => by
        rw [List.getElem?_append_left (List.getElem?_eq_some_iff.1 hu).1]; exact hu
      exact ⟨lx, ⟨ap _ _ h0, ap _ _ h1, ap _ _ h2, ap _ _ h3⟩, h6.step (fun _ g => .inl g) (fun a y hs hc => oo.cell hc (a1 _ hs)) (Nat.le_refl _)⟩
    · have hj2 : j < (l ++ [t]).length := (List.getElem?_eq_some_iff.1 hx).1
      have hj3 : j = l.length := by simp at hj2; omega
      subst hj3
      simp at hx
      subst hx
      have ap : ∀ i, (us ++ [.int .i64 (t.k : Int), .int .i64 (vn t), .string (vs t), lv])[l.length * 4 + i]? = ([.int .i64 (t.k : Int), .int .i64 (vn t), .string (vs t), lv] : List Value)[i]? := fun i => by
        rw [List.getElem?_append_right (by omega)]
        congr 1
        omega
      exact ⟨lv, ⟨ap 0, ap 1, ap 2, ap 3⟩, t1.step (fun _ g => .inr g) (fun a y hs hc => oo.cell hc (a2 _ hs)) (Nat.le_refl _)⟩
  · rcases hb with h | h
    · exact hS b h
    · exact s1 b h
/-- the items of forms in memory -/
theorem VfAt.item {w : World} {B d : Nat} {ao : Option Addr} {L cap : Nat} {l : List Fm} (h : VfAt w B d (.slice ao L cap) l) : ∃ S : Nat → Prop, (∀ b, S b → B ≤ b ∧ b < w.heap.size) ∧ ∀ (j : Nat) (fm : Fm), l[j]? = some fm → ∃ g il, ao = some ⟨g, 0, none⟩ ∧ (w.cell? ⟨g, j * 9 + 5, none⟩ = some (.int .i64 (fm.it.k : Int)) ∧ w.cell? ⟨g, j * 9 + 6, none⟩ = some (.int .i64 (vn fm.it)) ∧ w.cell? ⟨g, j * 9 + 7, none⟩ = some (.string (vs fm.it)) ∧ w.cell? ⟨g, j * 9 + 8, none⟩ = some il) ∧ VtAt w S d fm.it il := by
  obtain ⟨us, S, ho, ht, hS⟩ := h
  refine ⟨S, fun b hb => ⟨(hS b hb).1, (hS b hb).2.1⟩, fun j fm hj => ?_⟩
  obtain ⟨bl, il, hc, h1, h2⟩ := ht j fm hj
  rcases ho.2 with ⟨hv, h0⟩ | ⟨g, cap', cur, hv, _⟩
  · have := (List.getElem?_eq_some_iff.1 hj).1
    omega
  · injection hv with e1 e2 e3
    have cc : ∀ i u, us[i]? = some u → w.cell? ⟨g, i, none⟩ = some u := fun i u hu => by
      have := ho.cells (g := g) (by rw [e1]; rfl) i u hu
      rwa [addr_ad] at this
    exact ⟨g, il, e1, ⟨cc _ _ (hc 5 _ rfl), cc _ _ (hc 6 _ rfl), cc _ _ (hc 7 _ rfl), cc _ _ (hc 8 _ rfl)⟩, h2⟩
theorem parD_true (s : ByteArray) : parD true s = parR s := by
  unfold parR parD
  rw [alD_true]
  split
  · cases alR (s.size : Int) 12400 ((tokR s).1.length + 1) (tokR s).1 with
    | error p => rfl
    | ok l => rfl
  · rfl
end Go.Proofs.YtfecmpebnianpaaGreatDoor
namespace Go.Proofs.YtfecmpebnianpaaGreatDoor
open Go.RowKit
set_option linter.unusedSimpArgs false
set_option linter.unusedVariables false
/-- a vocabulary's cells; without uses and definitions both lists are nil -/
def RmN (w : World) (S : Nat → Prop) (m : Mf) (cs : List Value) : Prop := RmP w S m cs ∧ (m.us = [] → m.ds = [] → cs = [.string m.nm, .slice none 0 0, .slice none 0 0])
theorem el_rn : El 3 RmN where
  step := fun hS hk h => ⟨el_rm.step hS hk h.1, h.2⟩
  len := fun h => el_rm.len h.1
  one := fun h => el_rm.one h.1
/-- the row's elements ahead of one, as they lie in the row's cells us -/
def RnE (w : World) (S : Nat → Prop) (us : List Value) (l : List Mf) : Prop := ∀ (j : Nat) (x : Mf), l[j]? = some x → ∃ cs, (∀ i u, cs[i]? = some u → us[j * 3 + i]? = some u) ∧ RmN w S x cs
theorem RnE.step {w w' : World} {S S' : Nat → Prop} {us : List Value} {l : List Mf} (hS : ∀ b, S b → S' b) (hk : ∀ (a : Addr) u, S a.block → w.cell? a = some u → w'.cell? a = some u) (h : RnE w S us l) : RnE w' S' us l := fun j x hx => by
  obtain ⟨cs, h1, h2⟩ := h j x hx
  exact ⟨cs, h1, el_rn.step hS hk h2⟩
theorem RnE.set {w : World} {S : Nat → Prop} {us : List Value} {l : List Mf} (h : RnE w S us l) (i : Nat) (u : Value) : RnE w S (us.set (l.length * 3 + i) u) l := fun j x hx => by
  obtain ⟨cs, h1, h2⟩ := h j x hx
  refine ⟨cs, fun k y hy => ?_, h2⟩
  have hj : j < l.length := (List.getElem?_eq_some_iff.1 hx).1
  have hk : k < 3 := by have := el_rn.len h2; have := (List.getElem?_eq_some_iff.1 hy).1; omega
  rw [List.getElem?_set_ne (by omega)]
  exact h1 k y hy
/-- a vocabulary under way: the last of a row in block g -/
def RlX (w : World) (R g c D : Nat) (l : List Mf) (m : Mf) (b : Bool) (uv dv : Value) : Prop :=
  ∃ us S, w.heap[R]? = some (.cells #[.slice (some ⟨g, 0, none⟩) (l.length + 1) c, .int .i64 (if b then 2 else 1)] 63) ∧ w.ownsRow (R + 1) 66 3 (.slice (some ⟨g, 0, none⟩) (l.length + 1) c) (l.length + 1) us ∧ RnE w S us l ∧
    (us[l.length * 3]? = some (.string m.nm) ∧ us[l.length * 3 + 1]? = some uv ∧ us[l.length * 3 + 2]? = some dv) ∧ UsV w S uv m.us ∧ GrAt Ltb 71 4 RdP2 w D dv m.ds ∧ (∀ x, S x → R + 1 ≤ x ∧ x < D ∧ x ≠ g) ∧ g < D ∧ R + 1 ≤ D ∧ D ≤ w.heap.size ∧ (b = false → m.us = [] ∧ m.ds = [] ∧ uv = .slice none 0 0 ∧ dv = .slice none 0 0) ∧ (b = true → m.us ≠ [] ∨ m.ds ≠ [])
/-- the reader in block R -/
def RdX (w : World) (R : Nat) : DsX → Prop
  | (l, none) => ∃ v, w.heap[R]? = some (.cells #[v, .int .i64 0] 63) ∧ GrAt Ltb 66 3 RmN w (R + 1) v l
  | (l, some (m, b)) => ∃ g c D uv dv, RlX w R g c D l m b uv dv
theorem RlX.lt {w : World} {R g c D : Nat} {l : List Mf} {m : Mf} {b : Bool} {uv dv : Value} (h : RlX w R g c D l m b uv dv) : R < g ∧ g < w.heap.size ∧ R < w.heap.size := by
  obtain ⟨us, S, hR, ho, _⟩ := h
  have := ho.lt g rfl
  exact ⟨by omega, this.2, (Array.getElem?_eq_some_iff.1 hR).1⟩
theorem RlX.only {w w' : World} {R g c D : Nat} {l : List Mf} {m : Mf} {b : Bool} {uv dv : Value} {bs : Nat → Prop} (h : RlX w R g c D l m b uv dv) (o : Only bs w w') (hb : ∀ k, R ≤ k → k < w.heap.size → ¬ bs k) : RlX w' R g c D l m b uv dv := by
  have hl := h.lt
  obtain ⟨us, S, hR, ho, hE, hu, hU, hD, hS, hg, hRD, hDs, h0, h1⟩ := h
  refine ⟨us, S, (o.block R hl.2.2 (hb R (Nat.le_refl _) hl.2.2)).trans hR, o.owns ho (fun k hk => ?_), hE.step (fun _ g => g) (fun a u hs hc => o.cell hc (hb _ ?_ ?_)), hu, hU.step (fun _ g => g) (fun a u hs hc => o.cell hc (hb _ ?_ ?_)), hD.only bk_lt el_rd o (fun x hx hx2 => hb x (by omega) hx2), hS, hg, hRD, Nat.le_trans hDs o.size, h0, h1⟩
  · have := ho.lt k hk
    exact hb k (by omega) this.2
  · have := hS _ hs; omega
  · have := hS _ hs; omega
  · have := hS _ hs; omega
  · have := hS _ hs; omega
theorem RdX.only {w w' : World} {R : Nat} {σ : DsX} {bs : Nat → Prop} (h : RdX w R σ) (o : Only bs w w') (hb : ∀ k, R ≤ k → k < w.heap.size → ¬ bs k) : RdX w' R σ := by
  obtain ⟨l, q⟩ := σ
  cases q with
  | none =>
    obtain ⟨v, hR, hG⟩ := h
    have hl := (Array.getElem?_eq_some_iff.1 hR).1
    exact ⟨v, (o.block R hl (hb R (Nat.le_refl _) hl)).trans hR, hG.only bk_lt el_rn o (fun x hx hx2 => hb x (by omega) hx2)⟩
  | some p =>
    obtain ⟨m, b⟩ := p
    obtain ⟨g, c, D, uv, dv, h⟩ := h
    exact ⟨g, c, D, uv, dv, h.only o hb⟩
/-- a vocabulary is begun -/
theorem rd_new {w : World} {R : Nat} {l : List Mf} {nm : ByteArray} {v : Value} (hR : w.heap[R]? = some (.cells #[v, .int .i64 1] 63)) (h : GrAt Ltb 66 3 RmN w (R + 1) v (l ++ [⟨nm, [], []⟩])) : RdX w R (l, some (⟨nm, [], []⟩, false)) := by
  obtain ⟨us, S, ho, ht, hS⟩ := h
  simp only [List.length_append, List.length_cons, List.length_nil] at ho
  obtain ⟨g, c, rfl⟩ : ∃ g c, v = .slice (some ⟨g, 0, none⟩) (l.length + 1) c := by
    rcases ho.2 with ⟨_, h2⟩ | ⟨g, cap, cur, h1, _⟩
    · omega
    · exact ⟨_, _, h1⟩
  obtain ⟨cs, h1, h2⟩ := ht l.length ⟨nm, [], []⟩ (by simp)
  have hcs := h2.2 rfl rfl
  subst hcs
  have hz := (Array.getElem?_eq_some_iff.1 hR).1
  have hg := ho.lt g rfl
  refine ⟨g, c, w.heap.size, .slice none 0 0, .slice none 0 0, us, S, hR, ho, fun j x hx => ht j x ?_, ⟨h1 0 _ rfl, h1 1 _ rfl, h1 2 _ rfl⟩, .inl ⟨rfl, rfl⟩, gr_nil _ _ _ _ _ _, fun x hx => ?_, hg.2, by omega, Nat.le_refl _, fun _ => ⟨rfl, rfl, rfl, rfl⟩, fun h => by simp at h⟩
  · rw [List.getElem?_append_left (List.getElem?_eq_some_iff.1 hx).1]
    exact hx
  · have := hS x hx
    exact ⟨this.1, this.2.1, fun e => this.2.2 (by rw [e]; rfl)⟩
/-- a vocabulary is ended -/
theorem rd_end {w : World} {R g c D : Nat} {l : List Mf} {m : Mf} {b : Bool} {uv dv : Value} (h : RlX w R g c D l m b uv dv) : RdX (w.setCell ⟨R, 1, none⟩ (.int .i64 0)) R (l ++ [m], none) := by
  have hl := h.lt
  obtain ⟨us, S, hR, ho, hE, hu, hU, hD, hS, hg, hRD, hDs, h0, h1⟩ := h
  have oo : Only (fun k => k = R) w (w.setCell ⟨R, 1, none⟩ (.int .i64 0)) := (Only.refl _ w).setCell _ _ (fun _ => rfl)
  have hD2 := hD.only bk_lt el_rd oo (fun x hx _ e => by omega)
  obtain ⟨S2, hG, hS2⟩ := hD2.read bk_lt el_rd
  refine ⟨.slice (some ⟨g, 0, none⟩) (l.length + 1) c, (heap_setCell_same _ R 1 _ _ _ hR).trans rfl, us, fun x => S x ∨ S2 x, ?_, fun j x hx => ?_, fun x hx => ?_⟩
  · simpa using oo.owns ho (fun k hk e => by have := ho.lt k hk; omega)
  · by_cases hj : j < l.length
    · rw [List.getElem?_append_left hj] at hx
      obtain ⟨cs, c1, c2⟩ := hE j x hx
      exact ⟨cs, c1, el_rn.step (fun _ g => .inl g) (fun a u hs hc => oo.cell hc (fun e => by have := hS _ hs; omega)) c2⟩
    · have hj2 : j < (l ++ [m]).length := (List.getElem?_eq_some_iff.1 hx).1
      have hj3 : j = l.length := by simp at hj2; omega
      subst hj3
      simp at hx
      subst hx
      refine ⟨[.string m.nm, uv, dv], fun i u hi => ?_, ⟨uv, dv, rfl, hU.step (fun _ g => .inl g) (fun a u hs hc => oo.cell hc (fun e => by have := hS _ hs; omega)), GvAt.step el_rd (fun _ g => .inr g) (fun a u _ hc => hc) hG⟩, fun e1 e2 => ?_⟩
      · match i, hi with
        | 0, hi => simp only [List.getElem?_cons_zero, Option.some.injEq] at hi; rw [← hi]; exact hu.1
        | 1, hi => simp only [List.getElem?_cons_succ, List.getElem?_cons_zero, Option.some.injEq] at hi; rw [← hi]; exact hu.2.1
        | 2, hi => simp only [List.getElem?_cons_succ, List.getElem?_cons_zero, Option.some.injEq] at hi; rw [← hi]; exact hu.2.2
        | i + 3, hi => simp at hi
      · cases b with
        | false =>
          obtain ⟨_, _, q3, q4⟩ := h0 rfl
          rw [q3, q4]
        | true => exact absurd e1 (by rcases h1 rfl with q | q; exact q; exact absurd e2 q)
  · rcases hx with hx | hx
    · have := hS x hx
      refine ⟨this.1, Nat.lt_of_lt_of_le (Nat.lt_of_lt_of_le this.2.1 hDs) oo.size, fun e => ?_⟩
      injection e with e
      exact this.2.2 e.symm
    · have := hS2 x hx
      refine ⟨by omega, this.2, fun e => ?_⟩
      have e2 : g = x := by injection e
      omega
/-- the cells of the vocabulary under way -/
theorem RlX.cells {w : World} {R g c D : Nat} {l : List Mf} {m : Mf} {b : Bool} {uv dv : Value} (h : RlX w R g c D l m b uv dv) : w.cell? ⟨g, l.length * 3 + 1, none⟩ = some uv ∧ w.cell? ⟨g, l.length * 3 + 2, none⟩ = some dv ∧ w.frozen? ⟨g, l.length * 3 + 1, none⟩ = false ∧ w.frozen? ⟨g, l.length * 3 + 2, none⟩ = false ∧ w.frozen? ⟨R, 1, none⟩ = false ∧ w.cell? ⟨R, 0, none⟩ = some (.slice (some ⟨g, 0, none⟩) (l.length + 1) c) ∧ w.cell? ⟨R, 1, none⟩ = some (.int .i64 (if b then 2 else 1)) := by
  obtain ⟨us, S, hR, ho, hE, hu, _⟩ := h
  have hc : ∀ j u, us[j]? = some u → w.cell? ⟨g, j, none⟩ = some u := fun j u hj => by
    have := ho.cells (g := g) rfl j u hj
    rwa [addr_ad] at this
  have hf : ∀ j, w.frozen? ⟨g, j, none⟩ = false := fun j => by
    rcases ho.2 with ⟨hv, _⟩ | ⟨g', cap, cur, hv, _, hg, _⟩
    · cases hv
    · simp only [Value.slice.injEq, Option.some.injEq, Addr.mk.injEq, and_true, true_and] at hv
      obtain ⟨rfl, _⟩ := hv
      exact blk_froz hg j
  exact ⟨hc _ _ hu.2.1, hc _ _ hu.2.2, hf _, hf _, blk_froz hR 1, blk_cells hR 0, blk_cells hR 1⟩
/-- the definitions of the vocabulary under way -/
theorem RlX.defs {w : World} {R g c D : Nat} {l : List Mf} {m : Mf} {b : Bool} {uv dv : Value} (h : RlX w R g c D l m b uv dv) : GrAt Ltb 71 4 RdP2 w D dv m.ds ∧ D ≤ w.heap.size ∧ R + 1 ≤ D ∧ g < D ∧ w.heap[R]? = some (.cells #[.slice (some ⟨g, 0, none⟩) (l.length + 1) c, .int .i64 (if b then 2 else 1)] 63) := by
  obtain ⟨us, S, hR, ho, hE, hu, hU, hD, hS, hg, hRD, hDs, h0, h1⟩ := h
  exact ⟨hD, hDs, hRD, hg, hR⟩
theorem RlX.bare {w : World} {R g c D : Nat} {l : List Mf} {m : Mf} {uv dv : Value} (h : RlX w R g c D l m false uv dv) : m.us = [] ∧ m.ds = [] := by
  obtain ⟨us, S, hR, ho, hE, hu, hU, hD, hS, hg, hRD, hDs, h0, h1⟩ := h
  exact ⟨(h0 rfl).1, (h0 rfl).2.1⟩
/-- the uses are put there -/
theorem rd_uses {w : World} {R g c D : Nat} {l : List Mf} {m : Mf} {uv dv uv' : Value} {us' : List ByteArray} {S1 : Nat → Prop} (h : RlX w R g c D l m false uv dv) (hU : UsV w S1 uv' us') (hne : us' ≠ []) (hS1 : ∀ x, S1 x → R + 1 ≤ x ∧ x < w.heap.size ∧ x ≠ g) : RdX ((w.setCell ⟨g, l.length * 3 + 1, none⟩ uv').setCell ⟨R, 1, none⟩ (.int .i64 2)) R (l, some (⟨m.nm, us', []⟩, true)) ∧ Only (fun x => R ≤ x) w ((w.setCell ⟨g, l.length * 3 + 1, none⟩ uv').setCell ⟨R, 1, none⟩ (.int .i64 2)) := by
  have hl := h.lt
  obtain ⟨us, S, hR, ho, hE, hu, hU0, hD, hS, hg, hRD, hDs, h0, h1⟩ := h
  obtain ⟨_, _, rfl, rfl⟩ := h0 rfl
  have o1 : Only (fun k => k = g) w (w.setCell ⟨g, l.length * 3 + 1, none⟩ uv') := (Only.refl _ w).setCell _ _ (fun _ => rfl)
  have o2 : Only (fun k => k = R) (w.setCell ⟨g, l.length * 3 + 1, none⟩ uv') ((w.setCell ⟨g, l.length * 3 + 1, none⟩ uv').setCell ⟨R, 1, none⟩ (.int .i64 2)) := (Only.refl _ _).setCell _ _ (fun _ => rfl)
  have oo : Only (fun k => k = g ∨ k = R) w ((w.setCell ⟨g, l.length * 3 + 1, none⟩ uv').setCell ⟨R, 1, none⟩ (.int .i64 2)) := (o1.mono (fun _ _ g => .inl g)).trans o2 (fun _ _ g => .inr g)
  have hlen : us.length = (l.length + 1) * 3 := ho.1
  refine ⟨⟨g, c, w.heap.size, uv', .slice none 0 0, us.set (l.length * 3 + 1) uv', fun x => S x ∨ S1 x, ?_, ?_, (hE.set 1 uv').step (fun _ g => .inl g) (fun a u hs hc => oo.cell hc ?_), ⟨?_, ?_, ?_⟩, hU.step (fun _ g => .inr g) (fun a u hs hc => oo.cell hc ?_), gr_nil _ _ _ _ _ _, fun x hx => ?_, hl.2.1, by omega, oo.size, fun h => by simp at h, fun _ => .inl hne⟩, oo.mono (fun x _ g => by omega)⟩
  · exact (heap_setCell_same _ R 1 _ _ _ ((o1.block R hl.2.2 (by omega)).trans hR)).trans rfl
  · exact o2.owns (own_set ho (l.length * 3 + 1) (by omega) uv') (fun k hk e => by have := ho.lt k hk; omega)
  · have := hS _ hs; omega
  · rw [List.getElem?_set_ne (by omega)]; exact hu.1
  · rw [List.getElem?_set_self (by omega)]
  · rw [List.getElem?_set_ne (by omega)]; exact hu.2.2
  · have := hS1 _ hs; omega
  · rcases hx with hx | hx
    · have := hS x hx; omega
    · have := hS1 x hx; omega
/-- a definition is put there -/
theorem rd_def {w w4 : World} {R g c D : Nat} {l : List Mf} {m : Mf} {b : Bool} {uv dv dv' : Value} {d : Fm} {bs : Nat → Prop} (h : RlX w R g c D l m b uv dv) (o4 : Only bs w w4) (hbs : ∀ x, bs x → dv.ownBlock = some x) (hG4 : GrAt Ltb 71 4 RdP2 w4 D dv' (m.ds ++ [d])) : RdX ((w4.setCell ⟨g, l.length * 3 + 2, none⟩ dv').setCell ⟨R, 1, none⟩ (.int .i64 2)) R (l, some (⟨m.nm, m.us, m.ds ++ [d]⟩, true)) ∧ Only (fun x => R ≤ x) w ((w4.setCell ⟨g, l.length * 3 + 2, none⟩ dv').setCell ⟨R, 1, none⟩ (.int .i64 2)) ∧ w4.heap[R]? = some (.cells #[.slice (some ⟨g, 0, none⟩) (l.length + 1) c, .int .i64 (if b then 2 else 1)] 63) ∧ w4.cell? ⟨g, l.length * 3 + 2, none⟩ = some dv ∧ w4.frozen? ⟨g, l.length * 3 + 2, none⟩ = false := by
  have hl := h.lt
  have hcl := h.cells
  obtain ⟨us, S, hR, ho, hE, hu, hU, hD, hS, hg, hRD, hDs, h0, h1⟩ := h
  have hdl : ∀ x, bs x → D ≤ x := fun x hx => (hD.lt x (hbs x hx)).1
  have hR4 : w4.heap[R]? = some (.cells #[.slice (some ⟨g, 0, none⟩) (l.length + 1) c, .int .i64 (if b then 2 else 1)] 63) := (o4.block R hl.2.2 (fun e => by have := hdl _ e; omega)).trans hR
  have ho4 := o4.owns ho (fun k hk e => by
    have := hdl _ e
    have e2 : g = k := by injection hk
    omega)
  have o1 : Only (fun k => k = g) w4 (w4.setCell ⟨g, l.length * 3 + 2, none⟩ dv') := (Only.refl _ w4).setCell _ _ (fun _ => rfl)
  have o2 : Only (fun k => k = R) (w4.setCell ⟨g, l.length * 3 + 2, none⟩ dv') ((w4.setCell ⟨g, l.length * 3 + 2, none⟩ dv').setCell ⟨R, 1, none⟩ (.int .i64 2)) := (Only.refl _ _).setCell _ _ (fun _ => rfl)
  have oo : Only (fun k => k = g ∨ k = R) w4 ((w4.setCell ⟨g, l.length * 3 + 2, none⟩ dv').setCell ⟨R, 1, none⟩ (.int .i64 2)) := (o1.mono (fun _ _ g => .inl g)).trans o2 (fun _ _ g => .inr g)
  have hlen : us.length = (l.length + 1) * 3 := ho.1
  have hk : ∀ (a : Addr) (u : Value), S a.block → w.cell? a = some u → ((w4.setCell ⟨g, l.length * 3 + 2, none⟩ dv').setCell ⟨R, 1, none⟩ (.int .i64 2)).cell? a = some u := fun a u hs hc => by
    have := hS _ hs
    exact oo.cell (o4.cell hc (fun e => by have := hdl _ e; omega)) (by omega)
  have hs4 := o4.size
  refine ⟨⟨g, c, D, uv, dv', us.set (l.length * 3 + 2) dv', S, ?_, ?_, (hE.set 2 dv').step (fun _ g => g) hk, ⟨?_, ?_, ?_⟩, hU.step (fun _ g => g) hk, hG4.only bk_lt el_rd oo (fun x hx _ e => by omega), hS, hg, hRD, by have := oo.size; omega, fun h => by simp at h, fun _ => .inr (by simp)⟩, (o4.mono (fun x _ e => by have := hdl _ e; omega)).trans oo (fun x _ e => by omega), hR4, o4.cell hcl.2.1 (fun e => by have := hdl _ e; simp only at this; omega), ?_⟩
  · exact (heap_setCell_same _ R 1 _ _ _ ((o1.block R (by omega) (by omega)).trans hR4)).trans rfl
  · exact o2.owns (own_set ho4 (l.length * 3 + 2) (by omega) dv') (fun k hk e => by have := ho.lt k hk; omega)
  · rw [List.getElem?_set_ne (by omega)]; exact hu.1
  · rw [List.getElem?_set_ne (by omega)]; exact hu.2.1
  · rw [List.getElem?_set_self (by omega)]
  · have hng : ¬ bs g := fun e => by have := hdl _ e; omega
    rw [o4.frozen hl.2.1 hng]
    exact hcl.2.2.2.1
/-- the definition that a row of one form holds -/
theorem VfAt.defi {w : World} {B d : Nat} {ao : Option Addr} {L cap : Nat} {fm : Fm} (h : VfAt w B d (.slice ao L cap) [fm]) : ∃ g a1 c1, ao = some ⟨g, 0, none⟩ ∧ B ≤ g ∧ g < w.heap.size ∧ (w.cell? ⟨g, 0, none⟩ = some (.bool fm.d) ∧ w.cell? ⟨g, 1, none⟩ = some (.string fm.nm) ∧ w.cell? ⟨g, 2, none⟩ = some (.int .i64 (fm.i : Int)) ∧ w.cell? ⟨g, 3, none⟩ = some (.int .i64 (fm.j : Int)) ∧ w.cell? ⟨g, 4, none⟩ = some (.slice a1 fm.b.length c1)) ∧ NvAt w B d (bdT fm) (.slice a1 fm.b.length c1) := by
  obtain ⟨us, S, ho, ht, hS⟩ := h
  obtain ⟨g, cap', hv⟩ : ∃ g cap', Value.slice ao L cap = .slice (some ⟨g, 0, none⟩) 1 cap' := by
    rcases ho.2 with ⟨_, h2⟩ | ⟨g, cap', cur, h1, _⟩
    · simp at h2
    · exact ⟨g, cap', h1⟩
  injection hv with v1 v2 v3
  subst v1
  obtain ⟨bl, il, h0, h1, h2⟩ := ht 0 fm rfl
  have hn : NvAt w B d (bdT fm) bl := ⟨S, h1, fun b hb => ⟨(hS b hb).1, (hS b hb).2.1⟩⟩
  obtain ⟨a1, c1, rfl⟩ := hn.form
  have hc : ∀ j u, us[j]? = some u → w.cell? ⟨g, j, none⟩ = some u := fun j u hu => by
    have := ho.cells (g := g) rfl j u hu
    rwa [addr_ad] at this
  have hlt := ho.lt g rfl
  exact ⟨g, a1, c1, rfl, hlt.1, hlt.2, ⟨hc _ _ (h0 0 _ rfl), hc _ _ (h0 1 _ rfl), hc _ _ (h0 2 _ rfl), hc _ _ (h0 3 _ rfl), hc _ _ (h0 4 _ rfl)⟩, hn⟩
end Go.Proofs.YtfecmpebnianpaaGreatDoor
namespace Go.Proofs.YtfecmpebnianpaaGreatDoor
open Go.RowKit
set_option linter.unusedSimpArgs false
set_option linter.unusedVariables false
/-- what Line answers -/
def LnP (R : Nat) (w : World) (o : Option DsX) (e : Ending) (w' : World) : Prop := match o with
  | none => e = .returned (.bool false) ∧ Hid (Only (fun x => R ≤ x) w w')
  | some σ => e = .returned (.bool true) ∧ Hid (RdX w' R σ ∧ Only (fun x => R ≤ x) w w')
theorem tl_bt (X : ByteArray) (l : List UInt8) : X.toList = l ↔ X = bt l := by
  rw [ByteArray.toList_eq]
  constructor
  · intro h
    rw [← h, bt_self]
  · intro h
    rw [h, bt_list]
theorem slice_1t (g n c : Nat) (h1 : 2 ≤ n) (h2 : n ≤ c) (W : World) : (Instr.slice 39 (.slice (some ⟨g, 0, none⟩) n c) (some (.int .i64 1)) none none).run Tryz.prog W = .ok (.slice (some ⟨g, 1, none⟩) (n - 1) (c - 1)) W := by
  obtain ⟨m, rfl⟩ : ∃ m, n = m + 1 := ⟨n - 1, by omega⟩
  have i1 : (1 : Int) ≤ (m : Int) + 1 := by omega
  have i2 : (0 : Int) ≤ (m : Int) := by omega
  have h3 : ¬ c = 1 := by omega
  have h4 : ¬ c - 1 = 0 := by omega
  simp [go_sem, i1, i2, h3, h4]
theorem WoX.cells {w : World} {B g n c : Nat} {ws : List (List UInt8)} (h : WoX w B g n c ws) : n = ws.length ∧ n ≤ c ∧ B ≤ g ∧ g < w.heap.size ∧ ∀ (j : Nat) (x : List UInt8), ws[j]? = some x → w.cell? ⟨g, j, none⟩ = some (.string (bt x)) := by
  obtain ⟨h1, h2⟩ := h
  have hl := h2.lt g rfl
  refine ⟨h1, ?_, hl.1, hl.2, fun j x hx => ?_⟩
  · rcases h2.2 with ⟨hv, _⟩ | ⟨g', cap, cur, hv, _, _, hn, _⟩
    · cases hv
    · simp only [Value.slice.injEq] at hv
      obtain ⟨_, _, rfl⟩ := hv
      exact hn
  · have hc := h2.cells (g := g) rfl j (.string (bt x)) (by simp [hx])
    rwa [addr_ad] at hc
/-- what is known behind Words -/
def WdK (w : World) (t : List UInt8) (g n c : Nat) (w1 : World) : Prop := WoX w1 w.heap.size g n c (wdL t []) ∧ Only (fun _ => False) w w1
theorem words_k (t : List UInt8) (w : World) (ht : t.length ≤ 65536) : Calls Tryz.prog 32 #[.string (bt t)] w fun e w' => ∃ g n c, e = .returned (.slice (some ⟨g, 0, none⟩) n c) ∧ Hid (WdK w t g n c w') := by
  refine (rwords_any (bt t) w (by rw [bt_size]; exact ht)).mono fun e w' h => ?_
  obtain ⟨g, n, c, he, h⟩ := h
  have h2 := h.out
  rw [bt_list] at h2
  exact ⟨g, n, c, he, h2⟩
/-- the names behind the first word -/
theorem rest_names {w w1 : World} {t : List UInt8} {g n c : Nat} (h : WdK w t g n c w1) (h2 : 2 ≤ n) (ht : t.length ≤ 65536) {bs : Nat → Prop} : ∀ w2, Only (fun _ => False) w1 w2 → Calls Tryz.prog 33 #[.slice (some ⟨g, 1, none⟩) (n - 1) (c - 1)] w2 fun e w' => e = .returned (.bool ((((wdL t []).drop 1).map bt).all nameB)) ∧ Only (fun _ => False) w2 w' := fun w2 o2 => by
  obtain ⟨hn, hc, _, hg, hcl⟩ := h.1.cells
  have hlen := wd_len t []
  have hU : UtV w2 g 1 (((wdL t []).drop 1).map bt) := fun j x hx => by
    rw [List.getElem?_map, List.getElem?_drop] at hx
    cases hy : (wdL t [])[1 + j]? with
    | none => rw [hy] at hx; cases hx
    | some y =>
      rw [hy] at hx
      simp only [Option.map_some, Option.some.injEq] at hx
      rw [← hx]
      exact o2.cell (hcl (1 + j) y hy) (fun g => g)
  have hl : (((wdL t []).drop 1).map bt).length = n - 1 := by
    rw [List.length_map, List.length_drop]; omega
  have := rnames15_any (cap := c - 1) hU (by rw [hl]; omega) (by omega) (fun u hu => by
    obtain ⟨y, hy, rfl⟩ := List.mem_map.1 hu
    have := wd_size t [] y (List.mem_of_mem_drop hy)
    rw [bt_size]
    simp only [List.length_nil] at this
    omega)
  rw [hl] at this
  exact this
set_option maxRecDepth 100000 in
set_option maxHeartbeats 8000000 in
theorem line_out (t : List UInt8) (ht : t.length ≤ 65536) {w : World} {R : Nat} {l : List Mf} (h : RdX w R (l, none)) (hl : l.length ≤ 65536) : Calls Tryz.prog 16 #[.pointer (some ⟨R, 0, none⟩), .string (bt t)] w (LnP R w (lnX t (l, none))) := by
  obtain ⟨v, hR, hG⟩ := h
  obtain ⟨ao, cap, rfl⟩ := hG.form
  obtain ⟨K, hK⟩ : ∃ K, K = l.length := ⟨_, rfl⟩
  rw [← hK] at hR hG
  have HT : Hid (t.length ≤ 65536) := ht
  have HKL : Hid (K = l.length ∧ K ≤ 65536) := ⟨hK, by omega⟩
  have HG : Hid (w.heap[R]? = some (.cells #[.slice ao K cap, .int .i64 0] 63) ∧ GrAt Ltb 66 3 RmN w (R + 1) (.slice ao K cap) l) := ⟨hR, hG⟩
  have HZ : Hid (lnX t (l, none) = match nmX [118, 111, 99, 97, 98] ((wdL t []).map bt) with
    | some [nm] => some (l, some (⟨nm, [], []⟩, false))
    | _ => none) := by
    show (match nmO (bt t) vocB with | some [nm] => some (l, some ((⟨nm, [], []⟩ : Mf), false)) | _ => (none : Option DsX)) = _
    rw [show vocB = bt ([118, 111, 99, 97, 98] ++ [32]) from rfl, nmO_wd t [118, 111, 99, 97, 98] (by decide)]
  have HW : Hid _ := words_k t w ht
  obtain ⟨Z, hZ⟩ : ∃ Z, Z = lnX t (l, none) := ⟨_, rfl⟩
  rw [← hZ] at HZ ⊢
  obtain ⟨T, hT⟩ : ∃ T, T = bt t := ⟨_, rfl⟩
  rw [← hT] at HW ⊢
  clear hR hG hl ht hK hZ hT
  go_enter Tryz.func16, Tryz.ntmps16
  go_wp2_with fail
  refine (show Calls Tryz.prog 32 _ _ _ from HW.out).mono ?_
  rintro e w1 ⟨g, n, c, rfl, H1⟩
  obtain ⟨hn, hc, hg1, hg2, hcl⟩ := H1.out.1.cells
  have o1 : Only (fun _ => False) w w1 := H1.out.2
  have hRl := (Array.getElem?_eq_some_iff.1 HG.out.1).1
  have hR1 : w1.heap[R]? = some (.cells #[.slice ao K cap, .int .i64 0] 63) := (o1.block R hRl (fun g => g)).trans HG.out.1
  have r1 : w1.cell? ⟨R, 1, none⟩ = some (.int .i64 0) := blk_cells hR1 1
  have OF : Hid (Only (fun x => R ≤ x) w w1) := o1.mono (fun _ _ g => g.elim)
  obtain ⟨x, xs, hws⟩ : ∃ x xs, wdL t [] = x :: xs := by
    exact List.exists_cons_of_ne_nil (wd_ne _ _)
  have hZ := HZ.out
  rw [hws] at hZ hn
  have c0 : w1.cell? ⟨g, 0, none⟩ = some (.string (bt x)) := hcl 0 x (by rw [hws]; rfl)
  simp only [List.length_cons] at hn
  have i3 : (0 : Int) < (n : Int) := by omega
  have i4 : n ≤ 65537 := by have := wd_len t []; rw [hws] at this; simp only [List.length_cons] at this; have := HT.out; omega
  clear HW
  by_cases hx : bt x = (⟨#[118, 111, 99, 97, 98]⟩ : ByteArray)
  · obtain ⟨X, hX⟩ : ∃ X, X = bt x := ⟨_, rfl⟩
    rw [← hX] at hx c0
    have b1 : (X.toList == [118, 111, 99, 97, 98]) = true := by rw [beq_iff_eq, tl_bt]; exact hx
    by_cases h2 : n = 2
    · obtain ⟨y, rfl⟩ : ∃ y, xs = [y] := by
        match xs, hn with
        | [y], _ => exact ⟨y, rfl⟩
        | [], hn => simp at hn; omega
        | _ :: _ :: _, hn => simp at hn; omega
      have b2 : ((n : Int) != 2) = false := by rw [h2]; decide
      have hsl := slice_1t g n c (by omega) hc
      have HN : Hid _ := rest_names (bs := fun _ => False) H1.out (by omega) HT.out
      obtain ⟨n1, hn1⟩ : ∃ n1, n1 = n - 1 := ⟨_, rfl⟩
      obtain ⟨c1, hc1⟩ : ∃ c1, c1 = c - 1 := ⟨_, rfl⟩
      rw [hws] at HN
      rw [← hn1, ← hc1] at hsl HN
      have hZ2 : Z = if nameB (bt y) then some (l, some (⟨bt y, [], []⟩, false)) else none := by
        rw [hZ]
        simp only [List.map_cons, List.map_nil, nmX, ← hX, hx]
        rw [if_pos (show (⟨#[118, 111, 99, 97, 98]⟩ : ByteArray) = bt [118, 111, 99, 97, 98] from rfl)]
        simp only [List.all_cons, List.all_nil, Bool.and_true]
        cases nameB (bt y) <;> rfl
      have cy : w1.cell? ⟨g, 1, none⟩ = some (.string (bt y)) := hcl 1 y (by rw [hws]; rfl)
      obtain ⟨b, hb⟩ : ∃ b, b = nameB (bt y) := ⟨_, rfl⟩
      have HN2 : Hid (∀ w2, Only (fun _ => False) w1 w2 → Calls Tryz.prog 33 #[.slice (some ⟨g, 1, none⟩) n1 c1] w2 fun e w' => e = .returned (.bool b) ∧ Only (fun _ => False) w2 w') := by
        rw [hb]
        have := HN.out
        show ∀ w2, _
        simpa using this
      obtain ⟨Y, hY⟩ : ∃ Y, Y = bt y := ⟨_, rfl⟩
      rw [← hb] at hZ2
      rw [← hY] at hZ2 cy
      have H2 : Hid (w1.heap[R]? = some (.cells #[.slice ao K cap, .int .i64 0] 63) ∧ Only (fun _ => False) w w1 ∧ w.heap.size ≤ g ∧ g < w1.heap.size ∧ R < w.heap.size ∧ w1.cell? ⟨g, 1, none⟩ = some (.string Y)) := ⟨hR1, o1, hg1, hg2, hRl, cy⟩
      have i5 : (1 : Int) < (n : Int) := by omega
      have HZ2 : Hid (Z = if b then some (l, some (⟨Y, [], []⟩, false)) else none) := hZ2
      clear hcl HN hb hY hZ2 hZ HZ HT hws hX hx hn1 hc1 hn h2 H1 hR1 o1 hg1 hg2 hRl hc cy
      go_wp2_with fail
      refine (show Calls Tryz.prog 33 _ _ _ from HN2.out _ (Only.refl _ _)).mono ?_
      rintro e w2 ⟨rfl, o2⟩
      clear HN2
      cases b with
      | false =>
        obtain rfl : Z = none := HZ2.out
        clear HZ2
        have OF2 : Hid (Only (fun x => R ≤ x) w w2) := OF.out.trans o2 (fun _ _ g => g.elim)
        clear o2 OF H2 HG c0 r1
        go_wp2
        go_ret
        exact ⟨rfl, OF2⟩
      | true =>
        obtain rfl : Z = some (l, some (⟨Y, [], []⟩, false)) := HZ2.out
        clear HZ2
        have hR2 : w2.heap[R]? = some (.cells #[.slice ao K cap, .int .i64 0] 63) := (o2.block R (by have := H2.out.2.1.size; have := H2.out.2.2.2.2.1; omega) (fun g => g)).trans H2.out.1
        have OW : Only (fun _ => False) w w2 := H2.out.2.1.trans o2 (fun _ _ g => g)
        have hGG := HG.out.2.only bk_lt el_rn OW (fun _ _ _ e => e)
        have d0 : w2.drew.cell? ⟨R, 0, none⟩ = some (.slice ao K cap) := blk_cells hR2 0
        have d1 : w2.drew.cell? ⟨g, 1, none⟩ = some (.string Y) := o2.cell H2.out.2.2.2.2.2 (fun g => g)
        have oX : Only (fun _ => False) w2 (w2.alloc (.cells #[.string Y, .slice none 0 0, .slice none 0 0] 66)).drew := ((Only.refl _ w2).alloc _).drew
        have e0 : (w2.alloc (.cells #[.string Y, .slice none 0 0, .slice none 0 0] 66)).drew.cell? ⟨R, 0, none⟩ = some (.slice ao K cap) := oX.cell d0 (fun g => g)
        have e1 : (w2.alloc (.cells #[.string Y, .slice none 0 0, .slice none 0 0] 66)).drew.cell? ⟨g, 1, none⟩ = some (.string Y) := oX.cell d1 (fun g => g)
        have hRw := H2.out.2.2.2.2.1
        have hsz := OW.size
        have hRX : (w2.alloc (.cells #[.string Y, .slice none 0 0, .slice none 0 0] 66)).drew.heap[R]? = some (.cells #[.slice ao K cap, .int .i64 0] 63) := (oX.block R (by omega) (fun g => g)).trans hR2
        have hlt := hGG.lt
        have HQ : Hid ((w2.alloc (.cells #[.string Y, .slice none 0 0, .slice none 0 0] 66)).drew.heap[w2.heap.size]? = some (.cells [.string Y, .slice none 0 0, .slice none 0 0].toArray 66) ∧ GrAt Ltb 66 3 RmN (w2.alloc (.cells #[.string Y, .slice none 0 0, .slice none 0 0] 66)).drew (R + 1) (.slice ao K cap) l ∧ GnAt Ltb RmN (w2.alloc (.cells #[.string Y, .slice none 0 0, .slice none 0 0] 66)).drew w2.heap.size ⟨Y, [], []⟩ [.string Y, .slice none 0 0, .slice none 0 0] ∧ R + 1 ≤ w2.heap.size ∧ (∀ x, (Value.slice ao K cap).ownBlock = some x → x < w2.heap.size) ∧ R + 1 ≤ (w2.alloc (.cells #[.string Y, .slice none 0 0, .slice none 0 0] 66)).drew.heap.size ∧ l.length ≤ 1000000) :=
          ⟨alloc_at _ _ _ rfl, hGG.only bk_lt el_rn oX (fun _ _ _ e => e), ⟨fun _ => False, ⟨⟨_, _, rfl, .inl ⟨rfl, rfl⟩, none, 0, rfl, Nat.le_refl _, fun j x hx => by simp at hx⟩, fun _ _ => rfl⟩, fun b hb => hb.elim⟩, by omega, fun x hx => (hlt x hx).2, by have := oX.size; omega, by have := HKL.out; omega⟩
        have HEN : Hid (∀ a4 c4 w4, Hid (GrAt Ltb 66 3 RmN w4 (R + 1) (.slice a4 (K + 1) c4) (l ++ [⟨Y, [], []⟩]) ∧ Only (fun x => (Value.slice ao K cap).ownBlock = some x) (w2.alloc (.cells #[.string Y, .slice none 0 0, .slice none 0 0] 66)).drew w4) → w4.heap[R]? = some (.cells #[.slice ao K cap, .int .i64 0] 63) ∧ Hid (∀ w5, w5 = (w4.setCell ⟨R, 0, none⟩ (.slice a4 (K + 1) c4)).setCell ⟨R, 1, none⟩ (.int .i64 1) → RdX w5 R (l, some (⟨Y, [], []⟩, false)) ∧ Only (fun x => R ≤ x) w w5)) := fun a4 c4 w4 hf => by
          have hlX : ∀ x, (Value.slice ao K cap).ownBlock = some x → R + 1 ≤ x := fun x hx => (hlt x hx).1
          have hR4 : w4.heap[R]? = some (.cells #[.slice ao K cap, .int .i64 0] 63) := (hf.out.2.block R (by have := oX.size; omega) (fun e => by have := hlX R e; omega)).trans hRX
          refine ⟨hR4, fun w5 e5 => ?_⟩
          subst e5
          have o5 : Only (fun k => k = R) w4 (w4.setCell ⟨R, 0, none⟩ (.slice a4 (K + 1) c4)) := (Only.refl _ w4).setCell _ _ (fun _ => rfl)
          have o6 : Only (fun k => k = R) w4 ((w4.setCell ⟨R, 0, none⟩ (.slice a4 (K + 1) c4)).setCell ⟨R, 1, none⟩ (.int .i64 1)) := o5.setCell _ _ (fun _ => rfl)
          refine ⟨rd_new ?_ (hf.out.1.only bk_lt el_rn o6 (fun b hb _ e => by omega)), ?_⟩
          · exact (heap_setCell_same _ R 1 _ _ _ ((heap_setCell_same _ R 0 _ _ _ hR4).trans rfl)).trans rfl
          · exact ((OW.mono (bs' := fun x => R ≤ x) (fun _ _ g => g.elim)).trans oX (fun _ _ g => g.elim)).trans (hf.out.2.mono (bs' := fun x => R ≤ x) (fun x _ e => by have := hlX x e; omega)) (fun _ _ g => g) |>.trans o6 (fun x _ e => by omega)
        clear hR2 OW hGG oX hRX hlt o2 hsz hRw HG H2 OF c0 r1
        go_wp2
        go_region_law (refine step_gr bk_lt el_rn rm_info Tryz.underlying27 (by decide) (by decide) (by rfl) _ _ (by rfl) (by rfl) (by rfl) HQ.out.1 HQ.out.2.1 HQ.out.2.2.1 HQ.out.2.2.2.1 HQ.out.2.2.2.2.1 HQ.out.2.2.2.2.2.1 HQ.out.2.2.2.2.2.2 ?_; intro a4 c4 w4 hf4; have hf5 := HEN.out a4 c4 w4 hf4; have y9 : w4.cell? ⟨R, 0, none⟩ = some (.slice ao K cap) := blk_cells hf5.1 0; have x9 := blk_froz hf5.1 0)
        all_goals
          have HFN := hf5.2
          have z1 : (w4.setCell ⟨R, 0, none⟩ (.slice a4 (K + 1) c4)).frozen? ⟨R, 1, none⟩ = false := blk_froz ((heap_setCell_same _ R 0 _ _ (.slice a4 (K + 1) c4) hf5.1).trans rfl) 1
          have z2 : (w4.setCell ⟨R, 0, none⟩ (.slice a4 (K + 1) c4)).cell? ⟨R, 1, none⟩ = some (.int .i64 0) := blk_cells ((heap_setCell_same _ R 0 _ _ (.slice a4 (K + 1) c4) hf5.1).trans rfl) 1
          clear hf5 hf4 HEN HQ d0 d1 e0 e1 y9 x9
          go_wp2
          go_ret
          exact ⟨rfl, HFN.out _ rfl⟩
    · have b2 : ((n : Int) != 2) = true := by
        rw [bne_iff_ne]; omega
      have hZ2 : Z = none := by
        rw [hZ]
        match xs, hn with
        | [y], hn => simp at hn; omega
        | [], hn => rfl
        | y :: z :: zs, hn =>
          simp only [List.map_cons, nmX]
          split
          · rename_i nm heq
            split at heq
            · split at heq
              · simp at heq
              · cases heq
            · cases heq
          · rfl
      subst hZ2
      clear hcl hZ HZ HT hws hX hx hn h2 H1 hR1 o1 hg1 hg2 hRl hc HG
      go_wp2
      go_ret
      exact ⟨rfl, OF⟩
  · obtain ⟨X, hX⟩ : ∃ X, X = bt x := ⟨_, rfl⟩
    rw [← hX] at hx c0
    have b1 : (X.toList == [118, 111, 99, 97, 98]) = false := by rw [beq_eq_false_iff_ne]; intro e; exact hx ((tl_bt _ _).1 e)
    have hZ2 : Z = none := by
      rw [hZ]
      cases xs with
      | nil => rfl
      | cons y ys =>
        simp only [List.map_cons, nmX]
        rw [← hX, if_neg (show ¬ X = bt [118, 111, 99, 97, 98] from hx)]
    subst hZ2
    clear hcl hZ HZ HT hws hX hx hn H1 hR1 o1 hg1 hg2 hRl hc HG
    go_wp2
    go_ret
    exact ⟨rfl, OF⟩
end Go.Proofs.YtfecmpebnianpaaGreatDoor
