/- The list of an inference: pop. mustFit, quotation, count, entryOf, apply. entryOf, apply. A row of entries the other way round. -/
import Derived.Test.YtodbkihobgdpdaaGreatDoorGal
namespace Go.Proofs.YtodbkihobgdpdaaGreatDoor
open Go.RowKit Go.Lib
set_option linter.unusedSimpArgs false
set_option linter.unusedVariables false
theorem results_en {fn : Func} {u : Tmp} (h : fn.results = #[.cell u 130]) (tmps : Array Value) (w : World) (B : Nat) {x y : Value} (h0 : w.cell? ⟨B, 0, none⟩ = some x) (h1 : w.cell? ⟨B, 1, none⟩ = some y) (ha : tmps.getD u undef = .pointer (some ⟨B, 0, none⟩)) :
    (results fn tmps).run Tryz.prog w = .ok (.agg #[x, y]) w := by
  have ha' : tmps[u]?.getD undef = .pointer (some ⟨B, 0, none⟩) := by simpa using ha
  simp [results, h, ha', asAddr, go_sem, loadVar, isAgg, Tryz.underlying130, h0, h1]
theorem fset2 {w : World} {B : Nat} {x y : Value} {t : TypeId} (h : w.heap[B]? = some (.cells #[x, y] t)) (u v : Value) : ((w.setCell ⟨B, 0, none⟩ u).setCell ⟨B, 1, none⟩ v).cell? ⟨B, 0, none⟩ = some u ∧ ((w.setCell ⟨B, 0, none⟩ u).setCell ⟨B, 1, none⟩ v).cell? ⟨B, 1, none⟩ = some v := by
  obtain ⟨c0, c1, _, _⟩ := wr2_cell h
  have ne : ∀ (W : World) (i j : Nat) (v : Value), i ≠ j → (W.setCell ⟨B, i, none⟩ v).cell? ⟨B, j, none⟩ = W.cell? ⟨B, j, none⟩ := fun W i j v g => by apply World.cell?_setCell_other; intro e; exact g (by injection e)
  refine ⟨?_, ?_⟩
  · rw [ne _ 1 0 _ (by omega)]
    exact World.cell?_setCell_same' _ _ _ (by rw [c0]; rfl)
  · exact World.cell?_setCell_same' _ _ _ (by rw [ne _ 0 1 _ (by omega), c1]; rfl)
/-- what pop answers -/
def PoV (S : Nat → Prop) (d s : Nat) (v : Value) (x : Ent) (st : List Ent) (tk : Nat) (w : World) (e : Ending) (w' : World) : Prop := ∃ b ao n cap, e = .returned (.agg #[.bool b, .slice ao n cap]) ∧ Hid (EnAt w' S d x b ao n cap ∧ (∃ v', EsV w' S d s st tk v' ∧ v'.ownBlock = v.ownBlock) ∧ Only (fun b => b = s) w w')
def PoP (S : Nat → Prop) (d s : Nat) (x : Ent) (st : List Ent) (tk : Nat) (w : World) (e : Ending) (w' : World) : Prop := ∃ b ao n cap, e = .returned (.agg #[.bool b, .slice ao n cap]) ∧ Hid (EnAt w' S d x b ao n cap ∧ EsAt w' S d s st tk ∧ Only (fun b => s ≤ b) w w')
set_option maxRecDepth 100000 in
theorem pop_nil {w : World} {S : Nat → Prop} {d s tk : Nat} {v : Value} (h : EsV w S d s [] tk v) (hS : ∀ b, S b → b < s) (hl : tk ≤ 2000000) :
    Calls Tryz.prog 76 #[.pointer (some ⟨s, 0, none⟩)] w (PoV S d s v none [] (tk + 1) w) := by
  have hlt := EsAt.lt ⟨v, h⟩
  obtain ⟨xs, h1, h2, h3⟩ := h
  obtain ⟨a0, c0, hv⟩ := ownsRow_slice h2
  obtain ⟨N, hN⟩ : ∃ N, N = w.heap.size := ⟨_, rfl⟩
  obtain ⟨W, hW⟩ : ∃ W, W = w.alloc (.cells #[.bool false, .slice none 0 0] 130) := ⟨_, rfl⟩
  have oW : Only (fun _ => False) w W := by rw [hW]; exact (Only.refl _ w).alloc _
  have sW : W.heap[s]? = some (.cells #[v, .int .i64 (tk : Int)] 109) := (oW.block s hlt (fun e => e)).trans h1
  have nW : W.heap[N]? = some (.cells #[.bool false, .slice none 0 0] 130) := by rw [hW]; exact ealloc_at _ _ _ hN
  obtain ⟨k0, k1, f0, f1⟩ := wr2_cell sW
  have nT : (W.setCell ⟨s, 1, none⟩ (.int .i64 ((tk : Int) + 1))).heap[N]? = some (.cells #[.bool false, .slice none 0 0] 130) := by
    rw [heap_setCell_other _ _ _ _ (by simp only; omega)]; exact nW
  have sT : (W.setCell ⟨s, 1, none⟩ (.int .i64 ((tk : Int) + 1))).heap[s]? = some (.cells #[v, .int .i64 ((tk + 1 : Nat) : Int)] 109) := by
    rw [heap_setCell_same _ _ _ _ _ _ sW]; rfl
  obtain ⟨n0, n1, g0, g1⟩ := wr2_cell nT
  have q := fset2 nT (.bool false) (.slice none 0 0)
  have o3 : Only (fun b => b = s) w (((W.setCell ⟨s, 1, none⟩ (.int .i64 ((tk : Int) + 1))).setCell ⟨N, 0, none⟩ (.bool false)).setCell ⟨N, 1, none⟩ (.slice none 0 0)) :=
    (((oW.mono (bs' := fun b => b = s) (fun _ _ g => g.elim)).setCell ⟨s, 1, none⟩ _ (fun _ => rfl)).setCell ⟨N, 0, none⟩ _ (fun g => by simp only at g; omega)).setCell ⟨N, 1, none⟩ _ (fun g => by simp only at g; omega)
  have sZ : (((W.setCell ⟨s, 1, none⟩ (.int .i64 ((tk : Int) + 1))).setCell ⟨N, 0, none⟩ (.bool false)).setCell ⟨N, 1, none⟩ (.slice none 0 0)).heap[s]? = some (.cells #[v, .int .i64 ((tk + 1 : Nat) : Int)] 109) := by
    rw [heap_setCell_other _ _ _ _ (by simp only; omega), heap_setCell_other _ _ _ _ (by simp only; omega)]; exact sT
  have own3 : (((W.setCell ⟨s, 1, none⟩ (.int .i64 ((tk : Int) + 1))).setCell ⟨N, 0, none⟩ (.bool false)).setCell ⟨N, 1, none⟩ (.slice none 0 0)).ownsRow (s + 1) 130 2 v 0 xs := by
    refine ((((oW.mono (bs' := fun b => b = s ∨ b = N) (fun _ _ g => g.elim)).setCell ⟨s, 1, none⟩ _ (fun _ => .inl rfl)).setCell ⟨N, 0, none⟩ _ (fun _ => .inr rfl)).setCell ⟨N, 1, none⟩ _ (fun _ => .inr rfl)).owns h2 (fun k hk e => ?_)
    have := h2.lt k hk
    omega
  have F : Hid (EnAt (((W.setCell ⟨s, 1, none⟩ (.int .i64 ((tk : Int) + 1))).setCell ⟨N, 0, none⟩ (.bool false)).setCell ⟨N, 1, none⟩ (.slice none 0 0)) S d none false none 0 0 ∧ (∃ v', EsV (((W.setCell ⟨s, 1, none⟩ (.int .i64 ((tk : Int) + 1))).setCell ⟨N, 0, none⟩ (.bool false)).setCell ⟨N, 1, none⟩ (.slice none 0 0)) S d s [] (tk + 1) v' ∧ v'.ownBlock = v.ownBlock) ∧ Only (fun b => b = s) w (((W.setCell ⟨s, 1, none⟩ (.int .i64 ((tk : Int) + 1))).setCell ⟨N, 0, none⟩ (.bool false)).setCell ⟨N, 1, none⟩ (.slice none 0 0))) :=
    ⟨⟨rfl, rfl, rfl, rfl⟩, ⟨v, ⟨xs, sZ, own3, fun j x hx => by simp at hx⟩, rfl⟩, o3⟩
  have Q : Hid _ := q
  subst hv
  have i1 : IntKind.i64.wrap ((tk : Int) + 1) = (tk : Int) + 1 := by rw [IntKind.wrap_i64]; omega
  clear h1 h2 h3 hS oW sW nW nT sT o3 sZ own3 q hl hlt
  subst hW hN
  go_enter Tryz.func76, Tryz.ntmps76
  go_wp2
  refine bodyPost_ret (results_en rfl _ _ w.heap.size Q.out.1 Q.out.2 rfl) rfl ?_
  exact ⟨false, none, 0, 0, rfl, F.out⟩
set_option maxRecDepth 100000 in
theorem pop_snoc {w : World} {S : Nat → Prop} {d s tk : Nat} {st : List Ent} {x : Ent} {v : Value} (h : EsV w S d s (st ++ [x]) tk v) (hS : ∀ b, S b → b < s) (hl : st.length ≤ 2000000) :
    Calls Tryz.prog 76 #[.pointer (some ⟨s, 0, none⟩)] w (PoV S d s v x st tk w) := by
  have hlt := EsAt.lt ⟨v, h⟩
  obtain ⟨xs, h1, h2, h3⟩ := h
  obtain ⟨b, ao, n, cap, q1, q2, q3⟩ := h3 st.length x (by simp)
  have hlen : (st ++ [x]).length = st.length + 1 := by simp
  rw [hlen] at h2
  obtain ⟨L, hL⟩ : ∃ L, L = st.length := ⟨_, rfl⟩
  rw [← hL] at h2 q1 q2 hl
  obtain ⟨hxl, hrow⟩ := id h2
  rcases hrow with ⟨_, h0⟩ | ⟨g, c, cur, hv, hgs, hgc, hnc, hcm, hcs, htk⟩
  · omega
  have cg0 : w.cell? ⟨g, L * 2, none⟩ = some (.bool b) := by
    have := h2.cells (g := g) (by rw [hv]; rfl) (2 * L) _ q1
    rw [addr_ad, Nat.mul_comm] at this; exact this
  have cg1 : w.cell? ⟨g, L * 2 + 1, none⟩ = some (.slice ao n cap) := by
    have := h2.cells (g := g) (by rw [hv]; rfl) (2 * L + 1) _ q2
    rw [addr_ad, Nat.mul_comm] at this; exact this
  obtain ⟨N, hN⟩ : ∃ N, N = w.heap.size := ⟨_, rfl⟩
  have glt : g < w.heap.size := (Array.getElem?_eq_some_iff.1 hgc).1
  obtain ⟨W1, hW1⟩ : ∃ W, W = w.alloc (.cells #[.bool false, .slice none 0 0] 130) := ⟨_, rfl⟩
  have o1 : Only (fun _ => False) w W1 := by rw [hW1]; exact (Only.refl _ w).alloc _
  have z1 : W1.heap.size = N + 1 := by rw [hW1, hN]; simp
  obtain ⟨W2, hW2⟩ : ∃ W, W = W1.alloc (.cells #[.bool b, .slice ao n cap] 130) := ⟨_, rfl⟩
  have o2 : Only (fun _ => False) w W2 := by rw [hW2]; exact o1.alloc _
  have s1 : W1.heap[s]? = some (.cells #[v, .int .i64 (tk : Int)] 109) := (o1.block s hlt (fun e => e)).trans h1
  have s2 : W2.heap[s]? = some (.cells #[v, .int .i64 (tk : Int)] 109) := (o2.block s hlt (fun e => e)).trans h1
  obtain ⟨k10, k11, -, -⟩ := wr2_cell s1
  obtain ⟨k20, k21, f20, -⟩ := wr2_cell s2
  have p0 := o1.cell cg0 (fun e => e)
  have p1 := o1.cell cg1 (fun e => e)
  have n1 : W1.heap[N]? = some (.cells #[.bool false, .slice none 0 0] 130) := by rw [hW1]; exact ealloc_at _ _ _ hN
  have n2 : W2.heap[N]? = some (.cells #[.bool false, .slice none 0 0] 130) := by rw [hW2]; exact alloc_old n1
  have m2 : W2.heap[N + 1]? = some (.cells #[.bool b, .slice ao n cap] 130) := by rw [hW2]; exact ealloc_at _ _ _ z1.symm
  obtain ⟨W3, hW3⟩ : ∃ W, W = W2.setCell ⟨s, 0, none⟩ (.slice (some ⟨g, 0, none⟩) L c) := ⟨_, rfl⟩
  have n3 : W3.heap[N]? = some (.cells #[.bool false, .slice none 0 0] 130) := by
    rw [hW3, heap_setCell_other _ _ _ _ (by simp only; omega)]; exact n2
  have m3 : W3.heap[N + 1]? = some (.cells #[.bool b, .slice ao n cap] 130) := by
    rw [hW3, heap_setCell_other _ _ _ _ (by simp only; omega)]; exact m2
  have s3 : W3.heap[s]? = some (.cells #[.slice (some ⟨g, 0, none⟩) L c, .int .i64 (tk : Int)] 109) := by
    rw [hW3, heap_setCell_same _ _ _ _ _ _ s2]; rfl
  obtain ⟨a0, a1, g0, g1⟩ := wr2_cell n3
  obtain ⟨e0, e1, -, -⟩ := wr2_cell m3
  have q := fset2 n3 (.bool b) (.slice ao n cap)
  have o3 : Only (fun b => b = s ∨ b = N) w ((W3.setCell ⟨N, 0, none⟩ (.bool b)).setCell ⟨N, 1, none⟩ (.slice ao n cap)) := by
    rw [hW3]
    exact (((o2.mono (bs' := fun b => b = s ∨ b = N) (fun _ _ g => g.elim)).setCell ⟨s, 0, none⟩ _ (fun _ => .inl rfl)).setCell ⟨N, 0, none⟩ _ (fun _ => .inr rfl)).setCell ⟨N, 1, none⟩ _ (fun _ => .inr rfl)
  have o4 : Only (fun b => s ≤ b) w ((W3.setCell ⟨N, 0, none⟩ (.bool b)).setCell ⟨N, 1, none⟩ (.slice ao n cap)) := o3.mono (fun k hk e => by omega)
  have hb : ∀ b, S b → ¬ s ≤ b := fun b hb => by have := hS b hb; omega
  have sZ : ((W3.setCell ⟨N, 0, none⟩ (.bool b)).setCell ⟨N, 1, none⟩ (.slice ao n cap)).heap[s]? = some (.cells #[.slice (some ⟨g, 0, none⟩) L c, .int .i64 (tk : Int)] 109) := by
    rw [heap_setCell_other _ _ _ _ (by simp only; omega), heap_setCell_other _ _ _ _ (by simp only; omega)]; exact s3
  have own3 : ((W3.setCell ⟨N, 0, none⟩ (.bool b)).setCell ⟨N, 1, none⟩ (.slice ao n cap)).ownsRow (s + 1) 130 2 (.slice (some ⟨g, 0, none⟩) L c) L (xs.take (L * 2)) := by
    refine ⟨by rw [List.length_take]; omega, .inr ⟨g, c, cur, rfl, hgs, (o3.block g glt (by omega)).trans hgc, by omega, hcm, hcs, ?_⟩⟩
    rw [← htk, List.take_take]
    congr 1
    omega
  have F : Hid (EnAt ((W3.setCell ⟨N, 0, none⟩ (.bool b)).setCell ⟨N, 1, none⟩ (.slice ao n cap)) S d x b ao n cap ∧ (∃ v', EsV ((W3.setCell ⟨N, 0, none⟩ (.bool b)).setCell ⟨N, 1, none⟩ (.slice ao n cap)) S d s st tk v' ∧ v'.ownBlock = v.ownBlock) ∧ Only (fun b => b = s) w ((W3.setCell ⟨N, 0, none⟩ (.bool b)).setCell ⟨N, 1, none⟩ (.slice ao n cap))) := by
    refine ⟨q3.only o4 hb, ⟨.slice (some ⟨g, 0, none⟩) L c, ⟨xs.take (L * 2), sZ, by rw [← hL]; exact own3, fun j y hy => ?_⟩, by rw [hv]; rfl⟩, o3.mono (fun k hk e => by omega)⟩
    have hj : j < st.length := (List.getElem?_eq_some_iff.1 hy).1
    obtain ⟨b', ao', n', cap', r1, r2, r3⟩ := h3 j y (by rw [List.getElem?_append_left hj]; exact hy)
    exact ⟨b', ao', n', cap', by rw [List.getElem?_take, if_pos (by omega)]; exact r1, by rw [List.getElem?_take, if_pos (by omega)]; exact r2, r3.only o4 hb⟩
  have Q : Hid _ := q
  subst hv
  have i1 : IntKind.i64.wrap (L : Int) = (L : Int) := by rw [IntKind.wrap_i64]; omega
  have i2 : ¬ (L : Int) < 0 := by omega
  have i3 : L < L + 1 := by omega
  have i4 : L ≤ c := by omega
  have i5 : (L : Int) ≤ (c : Int) := by omega
  have HN : Hid (N = w.heap.size) := hN
  clear h1 h2 h3 hS o1 o2 o3 o4 s1 s2 s3 sZ own3 q n1 n2 n3 m2 m3 q1 q2 q3 hl hlt hxl hgs hgc hcm hcs htk cg0 cg1 glt z1 hb hlen HN
  clear hL
  subst hW3
  subst hW2
  subst hW1
  subst hN
  go_enter Tryz.func76, Tryz.ntmps76
  go_wp2
  refine bodyPost_ret (results_en rfl _ _ w.heap.size Q.out.1 Q.out.2 rfl) rfl ?_
  exact ⟨b, ao, n, cap, rfl, F.out⟩
theorem pop_v {w : World} {S : Nat → Prop} {d s tk : Nat} {st : List Ent} {v : Value} (a : Nat) (h : EsV w S d s st tk v) (hS : ∀ b, S b → b < s) (hl : potE ⟨a, st, tk⟩ ≤ 1000000) :
    Calls Tryz.prog 76 #[.pointer (some ⟨s, 0, none⟩)] w (PoV S d s v (popE ⟨a, st, tk⟩).1 (popE ⟨a, st, tk⟩).2.st (popE ⟨a, st, tk⟩).2.tk w) := by
  have hl2 : st.length + tk + 32 * a ≤ 1000000 := hl
  clear hl
  rcases List.eq_nil_or_concat st with rfl | ⟨l, x, hx⟩
  · have h9 : tk ≤ 2000000 := by omega
    exact pop_nil h hS h9
  · have hx2 : st = l ++ [x] := by rw [hx]; simp
    subst hx2
    simp only [List.length_append, List.length_cons, List.length_nil] at hl2
    have e : popE ⟨a, l ++ [x], tk⟩ = (x, ⟨a, l, tk⟩) := by simp [popE]
    rw [e]
    have h9 : l.length ≤ 2000000 := by omega
    exact pop_snoc h hS h9
theorem pop_any {w : World} {S : Nat → Prop} {d s tk : Nat} {st : List Ent} (a : Nat) (h : EsAt w S d s st tk) (hS : ∀ b, S b → b < s) (hl : potE ⟨a, st, tk⟩ ≤ 1000000) :
    Calls Tryz.prog 76 #[.pointer (some ⟨s, 0, none⟩)] w (PoP S d s (popE ⟨a, st, tk⟩).1 (popE ⟨a, st, tk⟩).2.st (popE ⟨a, st, tk⟩).2.tk w) := by
  obtain ⟨v, h⟩ := h
  refine (pop_v a h hS hl).mono fun e w' g => ?_
  obtain ⟨b, ao, n, cap, he, g⟩ := g
  obtain ⟨g1, ⟨v', g2, _⟩, g3⟩ := g.out
  exact ⟨b, ao, n, cap, he, g1, ⟨v', g2⟩, g3.mono (fun k _ e => by omega)⟩
/-- the row that the list has now is the one that it had, or a new one -/
def RwK (w : World) (v v' : Value) : Prop := v'.ownBlock = v.ownBlock ∨ ∃ k, v'.ownBlock = some k ∧ w.heap.size ≤ k
/-- the list at s, which was the row v, is st now, and nothing else has turned -/
def EsO (w w' : World) (S : Nat → Prop) (d s : Nat) (v : Value) (st : List Ent) (tk : Nat) : Prop := (∃ v', EsV w' S d s st tk v' ∧ RwK w v v') ∧ Only (fun b => b = s ∨ v.ownBlock = some b) w w'
theorem EsO.refl {w : World} {S : Nat → Prop} {d s tk : Nat} {v : Value} {st : List Ent} (h : EsV w S d s st tk v) : EsO w w S d s v st tk := ⟨⟨v, h, .inl rfl⟩, Only.refl _ _⟩
theorem EsO.step {w w1 w2 : World} {S : Nat → Prop} {d s tk : Nat} {v v1 : Value} {st : List Ent} (hr : RwK w v v1) (o : Only (fun b => b = s ∨ v.ownBlock = some b) w w1) (g : EsO w1 w2 S d s v1 st tk) : EsO w w2 S d s v st tk := by
  obtain ⟨⟨v2, g1, g2⟩, g3⟩ := g
  have hz := o.size
  refine ⟨⟨v2, g1, ?_⟩, o.trans g3 (fun k hk e => ?_)⟩
  · rcases g2 with g2 | ⟨k, g2, g4⟩
    · rcases hr with hr | ⟨k, hr, hk⟩
      · exact .inl (g2.trans hr)
      · exact .inr ⟨k, g2.trans hr, hk⟩
    · exact .inr ⟨k, g2, by omega⟩
  · rcases e with e | e
    · exact .inl e
    · rcases hr with hr | ⟨k', hr, hk'⟩
      · exact .inr (hr ▸ e)
      · rw [hr] at e
        injection e with e
        omega
theorem EsO.only {w w1 w2 : World} {S : Nat → Prop} {d s tk : Nat} {v : Value} {st : List Ent} (g : EsO w w1 S d s v st tk) (o : Only (fun _ => False) w1 w2) : EsO w w2 S d s v st tk := by
  obtain ⟨⟨v2, ⟨xs, q1, q2, q3⟩, g2⟩, g3⟩ := g
  refine ⟨⟨v2, ⟨xs, o.at q1, o.owns q2 (fun _ _ e => e), fun j x hx => ?_⟩, g2⟩, g3.trans o (fun _ _ e => e.elim)⟩
  obtain ⟨b, ao, n, cap, r1, r2, r3⟩ := q3 j x hx
  exact ⟨b, ao, n, cap, r1, r2, r3.only o (fun _ _ e => e)⟩
theorem EsO.es {w w' : World} {S : Nat → Prop} {d s tk : Nat} {v : Value} {st : List Ent} (g : EsO w w' S d s v st tk) : EsAt w' S d s st tk := by
  obtain ⟨⟨v', h, _⟩, _⟩ := g
  exact ⟨v', h⟩
theorem EsV.own {w : World} {S : Nat → Prop} {d s tk : Nat} {v : Value} {st : List Ent} (h : EsV w S d s st tk v) : ∀ k, v.ownBlock = some k → s + 1 ≤ k ∧ k < w.heap.size := by
  obtain ⟨xs, _, h2, _⟩ := h
  exact h2.lt
theorem EsO.wide {w w' : World} {S : Nat → Prop} {d s tk tk' : Nat} {v : Value} {st st' : List Ent} (h : EsV w S d s st tk v) (g : EsO w w' S d s v st' tk') : Only (fun b => s ≤ b) w w' := g.2.mono fun k _ e => by
  rcases e with e | e
  · omega
  · have := (h.own k e).1
    omega
end Go.Proofs.YtodbkihobgdpdaaGreatDoor
namespace Go.Proofs.YtodbkihobgdpdaaGreatDoor
open Go.RowKit Go.Lib
set_option linter.unusedSimpArgs false
set_option linter.unusedVariables false
/-- an inference gives up -/
def gupE (e : Int) : Ending := .panicked [{ v := .iface 83 (.agg #[.int .i64 e]), recovered := false }]
set_option maxRecDepth 100000 in
theorem fit_yes (w : World) : Calls Tryz.prog 77 #[.bool true] w fun e w' => e = .returned (.tuple #[]) ∧ w' = w := by
  go_enter Tryz.func77, Tryz.ntmps77
  go_wp2
  first | (refine bodyPost_ret (results_none rfl _ _ _) rfl ?_; exact ⟨rfl, rfl⟩) | (refine ⟨_, results_none rfl _ _ _, rfl, rfl⟩) | (refine ⟨rfl, _, results_none rfl _ _ _, rfl, rfl⟩)
set_option maxRecDepth 100000 in
theorem fit_no (w : World) : Calls Tryz.prog 77 #[.bool false] w fun e w' => e = gupE 12 ∧ w' = w := by
  unfold gupE
  go_enter Tryz.func77, Tryz.ntmps77
  go_wp2
  exact ⟨rfl, rfl, rfl⟩
theorem fit_any (b : Bool) (w : World) : Calls Tryz.prog 77 #[.bool b] w fun e w' => e = (if b then .returned (.tuple #[]) else gupE 12) ∧ w' = w := by
  cases b
  · exact fit_no w
  · exact fit_yes w
/-- what quotation answers -/
def QuP (S : Nat → Prop) (d s : Nat) (v : Value) (r : Except Int (List Vt × Ist)) (w : World) (e : Ending) (w' : World) : Prop := match r with
  | .error k => e = gupE k ∧ Only (fun b => b = s) w w'
  | .ok q => ∃ ao cap, e = .returned (.slice ao q.1.length cap) ∧ Hid (q.1.length ≤ cap ∧ SmL q.1 ∧ QsAt w' S d q.1 ao ∧ EsO w w' S d s v q.2.st q.2.tk)
set_option maxRecDepth 100000 in
theorem quotation_any {w : World} {S : Nat → Prop} {d s tk : Nat} {st : List Ent} {v : Value} (a : Nat) (h : EsV w S d s st tk v) (hS : ∀ b, S b → b < s) (hl : potE ⟨a, st, tk⟩ ≤ 1000000) :
    Calls Tryz.prog 75 #[.pointer (some ⟨s, 0, none⟩)] w (QuP S d s v (quoE ⟨a, st, tk⟩) w) := by
  have HP : Hid _ := pop_v a h hS hl
  have hlt := EsAt.lt ⟨v, h⟩
  have HS : Hid (s < w.heap.size ∧ ∀ b, S b → b < s) := ⟨hlt, hS⟩
  obtain ⟨X, hX⟩ : ∃ X, X = quoE ⟨a, st, tk⟩ := ⟨_, rfl⟩
  rw [← hX]
  have HX : Hid (X = quoE ⟨a, st, tk⟩) := hX
  obtain ⟨PO, hPO⟩ : ∃ PO, PO = popE ⟨a, st, tk⟩ := ⟨_, rfl⟩
  have HO : Hid (PO = popE ⟨a, st, tk⟩) := hPO
  rw [← hPO] at HP
  have HT := fit_yes
  have HN := fit_no
  have HTN : Hid (∀ b w, Calls Tryz.prog 77 #[.bool b] w fun e w' => e = (if b then .returned (.tuple #[]) else gupE 12) ∧ w' = w) := fit_any
  clear h hS hl hlt hX hPO HT HN
  go_enter Tryz.func75, Tryz.ntmps75
  go_wp2_with fail
  refine (show Calls Tryz.prog 76 _ _ _ from HP.out).mono ?_
  rintro e w1 ⟨b, ao, n, cap, rfl, G⟩
  clear HP
  go_wp2_with fail
  refine (show Calls Tryz.prog 77 _ _ _ from HTN.out b _).mono ?_
  rintro e w2 ⟨rfl, rfl⟩
  clear HTN
  have o1 := G.out.2.2
  have oo : Only (fun b => b = s) w (w1.alloc (.cells #[.bool b, .slice ao n cap] 130)) := o1.alloc _
  have oa : Only (fun _ => False) w1 (w1.alloc (.cells #[.bool b, .slice ao n cap] 130)) := (Only.refl _ _).alloc _
  obtain ⟨x, t⟩ := PO
  cases x with
  | none =>
    have e0 := G.out.1
    have hX2 : X = .error 12 := by rw [HX.out]; unfold quoE; rw [← HO.out]
    obtain ⟨rfl, rfl, rfl, rfl⟩ := e0
    clear HX
    subst hX2
    have OO : Hid _ := oo
    clear G o1 oo oa HO HS
    unfold gupE
    simp only [Bool.false_eq_true, if_false]
    go_wp2
    exact ⟨rfl, rfl, OO.out⟩
  | some l =>
    obtain ⟨rfl, rfl, hcap, hsm, hq⟩ := G.out.1
    have hX2 : X = .ok (l, t) := by rw [HX.out]; unfold quoE; rw [← HO.out]
    clear HX
    subst hX2
    have F : Hid (l.length ≤ cap ∧ SmL l ∧ QsAt (w1.alloc (.cells #[.bool true, .slice ao l.length cap] 130)) S d l ao ∧ EsO w (w1.alloc (.cells #[.bool true, .slice ao l.length cap] 130)) S d s v t.st t.tk) := by
      obtain ⟨v', g1, g2⟩ := G.out.2.1
      refine ⟨hcap, hsm, hq.only oa (fun _ _ g => g), EsO.only ⟨⟨v', g1, .inl g2⟩, o1.mono (fun _ _ e => .inl e)⟩ oa⟩
    clear G o1 oo oa HO HS hcap hsm hq
    simp only [if_true]
    go_wp2
    go_ret
    exact ⟨ao, cap, rfl, F.out⟩
/-- the inference in memory: the words at the block M, how many items may still be gone through -/
def IfAt (w : World) (F M a : Nat) : Prop := w.heap[F]? = some (.cells #[.map (some M), .int .i64 (a : Int)] 61)
theorem IfAt.only {w w' : World} {F M a : Nat} {bs : Nat → Prop} (h : IfAt w F M a) (o : Only bs w w') (hn : ¬ bs F) : IfAt w' F M a := (o.block F (Array.getElem?_eq_some_iff.1 h).1 hn).trans h
/-- what count answers -/
def CnE (F M : Nat) (s : Ist) (w : World) (e : Ending) (w' : World) : Prop := match cntE s with
  | .error k => e = gupE k ∧ w' = w
  | .ok t => e = .returned (.tuple #[]) ∧ Hid (IfAt w' F M t.a ∧ Only (fun b => b = F) w w')
set_option maxRecDepth 100000 in
theorem icount_any {w : World} {F M : Nat} (s : Ist) (h : IfAt w F M s.a) (hl : s.a ≤ 1000000) : Calls Tryz.prog 54 #[.pointer (some ⟨F, 0, none⟩)] w (CnE F M s w) := by
  obtain ⟨k0, k1, f0, f1⟩ := wr2_cell h
  unfold CnE cntE
  by_cases ha : s.a = 0
  · rw [if_pos ha]
    rw [ha] at k1
    unfold gupE
    clear h hl ha k0 f0 f1
    go_enter Tryz.func54, Tryz.ntmps54
    go_wp2
    exact ⟨rfl, rfl, rfl⟩
  · rw [if_neg ha]
    obtain ⟨c, hc⟩ : ∃ c, s.a = c + 1 := ⟨s.a - 1, by omega⟩
    have hc2 : s.a - 1 = c := by omega
    have F1 : Hid (IfAt (w.setCell ⟨F, 1, none⟩ (.int .i64 (c : Int))) F M c ∧ Only (fun b => b = F) w (w.setCell ⟨F, 1, none⟩ (.int .i64 (c : Int)))) := by
      refine ⟨?_, (Only.refl (fun b => b = F) w).setCell ⟨F, 1, none⟩ _ (fun _ => rfl)⟩
      unfold IfAt
      rw [heap_setCell_same _ _ _ _ _ _ h]
      rfl
    simp only [hc2]
    rw [hc] at k1
    have i0 : (((c + 1 : Nat) : Int) == 0) = false := by simp; omega
    have i1 : IntKind.i64.wrap (((c + 1 : Nat) : Int) - 1) = (c : Int) := by rw [IntKind.wrap_i64]; omega
    have i2 : IntKind.i64.wrap (c : Int) = (c : Int) := by rw [IntKind.wrap_i64]; omega
    have i3 : ¬ ((c : Int) + 1 = 0) := by omega
    clear h hl ha hc hc2 k0 f0
    go_enter Tryz.func54, Tryz.ntmps54
    go_wp2
    first | (refine bodyPost_ret (results_none rfl _ _ _) rfl ?_; exact ⟨rfl, F1.out⟩) | (refine ⟨_, results_none rfl _ _ _, rfl, F1.out⟩) | (refine ⟨rfl, _, results_none rfl _ _ _, rfl, F1.out⟩)
end Go.Proofs.YtodbkihobgdpdaaGreatDoor
namespace Go.Proofs.YtodbkihobgdpdaaGreatDoor
open Go.RowKit Go.Lib
set_option linter.unusedSimpArgs false
set_option linter.unusedVariables false
theorem en_quot {w : World} {S : Nat → Prop} {d : Nat} {t : Vt} {v : Value} (h : TiAt w S (d + 1) false t v) (hk : t.k = 5) : ∃ ao cap, v = .iface 81 (.agg #[.slice ao t.l.length cap]) ∧ t.l.length ≤ cap ∧ QsAt w S (d + 1) t.l ao := by
  rcases h with ⟨e, _⟩ | ⟨e, _⟩ | ⟨e, _⟩ | ⟨e, _⟩ | ⟨e, _⟩ | ⟨_, ao, cap, h1, h2, h3⟩
  · omega
  · omega
  · omega
  · omega
  · omega
  · rw [hk] at h1 h3
    exact ⟨ao, cap, h1, h2, fun j x hx => by
      obtain ⟨g, k, u, a1, a2, a3, a4⟩ := h3 j x hx
      exact ⟨g, k, u, a1, a2, a3, a4.step (fun _ g => g) (fun _ _ _ g => g) (by omega)⟩⟩
theorem en_not {w : World} {S : Nat → Prop} {d : Nat} {t : Vt} {v : Value} (h : TiAt w S (d + 1) false t v) (hk : ¬ t.k = 5) : ∀ W : World, (Instr.typeAssert v 67 81 true).run Tryz.prog W = .ok (.tuple #[.agg #[.slice none 0 0], .bool false]) W := by
  by_cases h4 : t.k = 4
  · rcases h with ⟨e, _⟩ | ⟨e, _⟩ | ⟨e, _⟩ | ⟨e, _⟩ | ⟨e, _⟩ | ⟨_, ao, cap, h1, h2, h3⟩
    · omega
    · omega
    · omega
    · omega
    · omega
    · rw [h1, if_pos h4]
      exact va_miss 95 81 67 _ Tryz.underlying81 (by intro m h; cases h) (by decide) _ zQ _
  · exact (leaf_lq h (by omega)).1.2
/-- what entryOf answers -/
def EoP (S : Nat → Prop) (d : Nat) (x : Ent) (w : World) (e : Ending) (w' : World) : Prop := ∃ b ao n cap, e = .returned (.agg #[.bool b, .slice ao n cap]) ∧ Hid (EnAt w' S d x b ao n cap ∧ Only (fun _ => False) w w')
set_option maxRecDepth 100000 in
theorem entryOf_any {w : World} {S : Nat → Prop} {d : Nat} {t : Vt} {v : Value} (h : TiAt w S d false t v) (hsm : ∃ e, SmT e t) : Calls Tryz.prog 56 #[v] w (EoP S d (if t.k = 5 then some t.l else none) w) := by
  cases d with
  | zero => exact h.elim
  | succ d =>
  have step : ∀ (b : Bool) (ao : Option Addr) (n cap : Nat), Hid ((((w.alloc (.cells #[.bool b, .slice ao n cap] 130)).alloc (.cells #[.slice ao n cap] 81)).cell? ⟨w.heap.size, 0, none⟩ = some (.bool b) ∧ ((w.alloc (.cells #[.bool b, .slice ao n cap] 130)).alloc (.cells #[.slice ao n cap] 81)).cell? ⟨w.heap.size, 1, none⟩ = some (.slice ao n cap)) ∧ Only (fun _ => False) w ((w.alloc (.cells #[.bool b, .slice ao n cap] 130)).alloc (.cells #[.slice ao n cap] 81))) := fun b ao n cap => by
    have n1 : ((w.alloc (.cells #[.bool b, .slice ao n cap] 130)).alloc (.cells #[.slice ao n cap] 81)).heap[w.heap.size]? = some (.cells #[.bool b, .slice ao n cap] 130) := alloc_old (ealloc_at _ _ _ rfl)
    exact ⟨⟨(wr2_cell n1).1, (wr2_cell n1).2.1⟩, ((Only.refl _ w).alloc _).alloc _⟩
  by_cases hk : t.k = 5
  · obtain ⟨ao, cap, rfl, hc, hq⟩ := en_quot h hk
    rw [if_pos hk]
    have Q := step true ao t.l.length cap
    have hsl : SmL t.l := by obtain ⟨e, he⟩ := hsm; exact ⟨he.len, he.parts⟩
    have F : Hid _ := (⟨⟨rfl, rfl, hc, hsl, hq.only Q.out.2 (fun _ _ g => g)⟩, Q.out.2⟩ : EnAt _ S (d + 1) (some t.l) true ao t.l.length cap ∧ Only (fun _ => False) w _)
    have hta : ∀ W : World, (Instr.typeAssert (.iface 81 (.agg #[.slice ao t.l.length cap])) 67 81 true).run Tryz.prog W = .ok (.tuple #[.agg #[.slice ao t.l.length cap], .bool true]) W := fun W => by
      simp [Instr.typeAssert, run_underlying Tryz.underlying81]
    clear h hsm hq hc step hsl hk
    go_enter Tryz.func56, Tryz.ntmps56
    go_wp2
    refine bodyPost_ret (results_en rfl _ _ w.heap.size Q.out.1.1 Q.out.1.2 rfl) rfl ?_
    exact ⟨_, _, _, _, rfl, F.out⟩
  · have hta := en_not h hk
    rw [if_neg hk]
    have Q := step false none 0 0
    have F : Hid _ := (⟨⟨rfl, rfl, rfl, rfl⟩, Q.out.2⟩ : EnAt ((w.alloc (.cells #[.bool false, .slice none 0 0] 130)).alloc (.cells #[.slice none 0 0] 81)) S (d + 1) none false none 0 0 ∧ Only (fun _ => False) w _)
    clear h hsm step hk
    go_enter Tryz.func56, Tryz.ntmps56
    go_wp2
    refine bodyPost_ret (results_en rfl _ _ w.heap.size Q.out.1.1 Q.out.1.2 rfl) rfl ?_
    exact ⟨_, _, _, _, rfl, F.out⟩
/-- so many that nothing is known of are pushed -/
theorem rep_snoc (o : Nat) : (List.replicate (o + 1) (none : Ent)) = List.replicate o none ++ [none] := by
  simp [List.replicate_succ']
set_option maxRecDepth 100000 in
set_option maxHeartbeats 1000000 in
theorem apply_any {w : World} {S : Nat → Prop} {d s tk : Nat} {st : List Ent} {v : Value} (a i o : Nat) (h : EsV w S d s st tk v) (hS : ∀ b, S b → b < s) (hl : potE ⟨a, st, tk⟩ + i + o ≤ 1000000) :
    Calls Tryz.prog 72 #[.pointer (some ⟨s, 0, none⟩), .agg #[.int .i64 (i : Int), .int .i64 (o : Int)]] w fun e w' => e = .returned (.tuple #[]) ∧ Hid (EsO w w' S d s v (appE i o ⟨a, st, tk⟩).st (appE i o ⟨a, st, tk⟩).tk) := by
  have hlt := EsAt.lt ⟨v, h⟩
  have hown := h.own
  obtain ⟨N, hN⟩ : ∃ N, N = w.heap.size := ⟨_, rfl⟩
  obtain ⟨W, hW⟩ : ∃ W, W = w.alloc (.cells #[.int .i64 (i : Int), .int .i64 (o : Int)] 30) := ⟨_, rfl⟩
  have oW : Only (fun _ => False) w W := by rw [hW]; exact (Only.refl _ w).alloc _
  have bW : W.heap[N]? = some (.cells #[.int .i64 (i : Int), .int .i64 (o : Int)] 30) := by rw [hW]; exact ealloc_at _ _ _ hN
  obtain ⟨c0, c1, -, -⟩ := wr2_cell bW
  have HH : Hid (EsO w W S d s v st tk ∧ (∀ k, v.ownBlock = some k → s + 1 ≤ k ∧ k < w.heap.size) ∧ s < N ∧ N = w.heap.size ∧ ∀ b, S b → b < s) := ⟨(EsO.refl h).only oW, hown, by omega, hN, hS⟩
  have HL : Hid (potE ⟨a, st, tk⟩ + i + o ≤ 1000000) := hl
  have HB : Hid (W.heap[N]? = some (.cells #[.int .i64 (i : Int), .int .i64 (o : Int)] 30)) := bW
  have il : i ≤ 1000000 := by omega
  have ol : o ≤ 1000000 := by omega
  have HIO : Hid (i ≤ 1000000 ∧ o ≤ 1000000) := ⟨il, ol⟩
  clear h hS hl hlt oW bW il ol hown
  go_enter Tryz.func72, Tryz.ntmps72
  subst hW
  subst hN
  go_wp2
  obtain ⟨W, hW⟩ : ∃ W, W = w.alloc (.cells #[.int .i64 (i : Int), .int .i64 (o : Int)] 30) := ⟨_, rfl⟩
  obtain ⟨N, hN⟩ : ∃ N, N = w.heap.size := ⟨_, rfl⟩
  rw [← hW, ← hN] at HH HB c0 c1 ⊢
  clear hW
  have HN : Hid (N = w.heap.size) := hN
  clear hN
  go_loopw [6] (fun r6 wr => ∃ (j : Nat), r6 = .int .i64 (j : Int) ∧ j ≤ i ∧ Hid (EsO w wr S d s v (popsE j ⟨a, st, tk⟩).2.st (popsE j ⟨a, st, tk⟩).2.tk ∧ wr.heap[N]? = some (.cells #[.int .i64 (i : Int), .int .i64 (o : Int)] 30))) (fun r6 _ => i - vuOf r6)
  case atStart => exact ⟨0, rfl, Nat.zero_le _, HH.out.1, HB.out⟩
  case round =>
    obtain ⟨j, rfl, hj, HI⟩ := hrel
    obtain ⟨w1, hw1⟩ : ∃ w1, w1 = wr := ⟨_, rfl⟩
    rw [← hw1] at HI ⊢
    clear hw1
    by_cases hji : j < i
    · have hp := popsE_pot j ⟨a, st, tk⟩
      have ha := popsE_a j ⟨a, st, tk⟩
      have hl2 := HL.out
      obtain ⟨⟨v1, ev, rk⟩, oi⟩ := HI.out.1
      have HK : Hid (RwK w v v1 ∧ Only (fun b => b = s ∨ v.ownBlock = some b) w w1) := ⟨rk, oi⟩
      have HC : Hid _ := pop_v (popsE j ⟨a, st, tk⟩).2.a ev HH.out.2.2.2.2 (by
        have : potE ⟨(popsE j ⟨a, st, tk⟩).2.a, (popsE j ⟨a, st, tk⟩).2.st, (popsE j ⟨a, st, tk⟩).2.tk⟩ = potE (popsE j ⟨a, st, tk⟩).2 := rfl
        omega)
      have HX : Hid (j < i) := hji
      have i1 : (j : Int) < (i : Int) := by omega
      have i4 : j ≤ 1000000 := by omega
      clear hp ha hl2 hji hj c0 c1 rk oi ev
      go_wp2_with fail
      refine (show Calls Tryz.prog 76 _ _ _ from HC.out).mono ?_
      rintro e w2 ⟨b, ao, n, cap, rfl, G⟩
      have HF : Hid (EsO w w2 S d s v (popsE (j + 1) ⟨a, st, tk⟩).2.st (popsE (j + 1) ⟨a, st, tk⟩).2.tk ∧ w2.heap[N]? = some (.cells #[.int .i64 (i : Int), .int .i64 (o : Int)] 30)) := by
        obtain ⟨g1, ⟨v', g2, g5⟩, g3⟩ := G.out
        refine ⟨?_, (g3.block N (Array.getElem?_eq_some_iff.1 HI.out.2).1 (by have := HH.out.2.2.1; omega)).trans HI.out.2⟩
        rw [popsE_snoc]
        exact EsO.step HK.out.1 HK.out.2 ⟨⟨v', g2, .inl g5⟩, g3.mono (fun _ _ e => .inl e)⟩
      clear HC HI G HK
      go_wp2
      go_roundw
      case rel => exact ⟨j + 1, by go_num, by have := HX.out; omega, HF⟩
      case measure => simp only [vuOf]; have := HX.out; omega
    · obtain rfl : j = i := by omega
      have i1 : ¬ (j : Int) < (j : Int) := by omega
      have hb1 := wr2_cell HI.out.2
      obtain ⟨c0, c1, -, -⟩ := hb1
      obtain ⟨P, hP⟩ : ∃ P, P = (popsE j ⟨a, st, tk⟩).2 := ⟨_, rfl⟩
      have HP : Hid (P = (popsE j ⟨a, st, tk⟩).2) := hP
      have HI2 : Hid (EsO w w1 S d s v P.st P.tk) := by rw [HP.out]; exact HI.out.1
      have HQ : Hid (P.st.length + o ≤ 1000000) := by
        have h1 := popsE_pot j ⟨a, st, tk⟩
        have h2 := HL.out
        have h3 : potE (popsE j ⟨a, st, tk⟩).2 = P.st.length + P.tk + 32 * P.a := by rw [hP]; rfl
        show P.st.length + o ≤ 1000000
        omega
      clear HI hj hji hP
      go_wp2
      go_loopw [13] (fun r13 wr => ∃ (q : Nat), r13 = .int .i64 (q : Int) ∧ q ≤ o ∧ Hid (EsO w wr S d s v (P.st ++ List.replicate q none) P.tk)) (fun r13 _ => o - vuOf r13)
      case atStart => exact ⟨0, rfl, Nat.zero_le _, by simpa using HI2⟩
      case round =>
        obtain ⟨q, rfl, hq, HI⟩ := hrel
        obtain ⟨w2, hw2⟩ : ∃ w2, w2 = wr := ⟨_, rfl⟩
        rw [← hw2] at HI ⊢
        clear hw2
        by_cases hqo : q < o
        · have hl2 := HQ.out
          obtain ⟨⟨v1, ev, rk⟩, oi⟩ := HI.out
          have HK : Hid (RwK w v v1 ∧ Only (fun b => b = s ∨ v.ownBlock = some b) w w2) := ⟨rk, oi⟩
          have HC : Hid _ := push_v (x := none) (b := false) (ao := none) (n := 0) (cap := 0) ev HH.out.2.2.2.2 ⟨rfl, rfl, rfl, rfl⟩ (by simp; omega)
          have HX : Hid (q < o) := hqo
          have i1 : (q : Int) < (o : Int) := by omega
          have i4 : q ≤ 1000000 := by omega
          clear hl2 hqo hq rk oi ev
          go_wp2_with fail
          refine (show Calls Tryz.prog 55 _ _ _ from HC.out).mono ?_
          rintro e w3 ⟨rfl, G⟩
          have HF : Hid (EsO w w3 S d s v (P.st ++ List.replicate (q + 1) none) P.tk) := by
            rw [rep_snoc, ← List.append_assoc]
            exact EsO.step HK.out.1 HK.out.2 G.out
          clear HC HI G HK
          go_wp2
          go_roundw
          case rel => exact ⟨q + 1, by go_num, by have := HX.out; omega, HF⟩
          case measure => simp only [vuOf]; have := HX.out; omega
        · obtain rfl : q = o := by omega
          have i1 : ¬ (q : Int) < (q : Int) := by omega
          have F : Hid (EsO w w2 S d s v (appE j q ⟨a, st, tk⟩).st (appE j q ⟨a, st, tk⟩).tk) := by
            have e1 : (appE j q ⟨a, st, tk⟩).st = P.st ++ List.replicate q none := by rw [HP.out]; rfl
            have e2 : (appE j q ⟨a, st, tk⟩).tk = P.tk := by rw [HP.out]; rfl
            rw [e1, e2]
            exact HI.out
          clear HI hq hqo
          go_wp2
          first | (refine bodyPost_ret (results_none rfl _ _ _) rfl ?_; exact ⟨rfl, F.out⟩) | (refine ⟨_, results_none rfl _ _ _, rfl, F.out⟩) | (refine ⟨rfl, _, results_none rfl _ _ _, rfl, F.out⟩)
end Go.Proofs.YtodbkihobgdpdaaGreatDoor
namespace Go.Proofs.YtodbkihobgdpdaaGreatDoor
open Go.RowKit Go.Lib
set_option linter.unusedSimpArgs false
set_option linter.unusedVariables false
/-- a row of entries that was made since block B -/
def RoE (w : World) (S : Nat → Prop) (d B : Nat) (v : Value) (m : List Ent) : Prop := ∃ (xs : List Value), w.ownsRow B 130 2 v m.length xs ∧ ∀ (j : Nat) (x : Ent), m[j]? = some x → ∃ b ao n cap, xs[2 * j]? = some (.bool b) ∧ xs[2 * j + 1]? = some (.slice ao n cap) ∧ EnAt w S d x b ao n cap
theorem RoE.only {w w' : World} {S bs : Nat → Prop} {d B : Nat} {v : Value} {m : List Ent} (h : RoE w S d B v m) (o : Only bs w w') (hs : ∀ b, v.ownBlock = some b → ¬ bs b) (hb : ∀ b, S b → ¬ bs b) : RoE w' S d B v m := by
  obtain ⟨xs, h2, h3⟩ := h
  refine ⟨xs, o.owns h2 hs, fun j x hx => ?_⟩
  obtain ⟨b, ao, n, cap, g1, g2, g3⟩ := h3 j x hx
  exact ⟨b, ao, n, cap, g1, g2, g3.only o hb⟩
theorem RoE.slice {w : World} {S : Nat → Prop} {d B : Nat} {v : Value} {m : List Ent} (h : RoE w S d B v m) : ∃ a c, v = .slice a m.length c := by
  obtain ⟨xs, h2, h3⟩ := h
  exact ownsRow_slice h2
/-- its block -/
theorem RoE.at {w : World} {S : Nat → Prop} {d B : Nat} {v : Value} {m : List Ent} (h : RoE w S d B v m) (hm : m ≠ []) : ∃ g c cur xs, v = .slice (some ⟨g, 0, none⟩) m.length c ∧ B ≤ g ∧ w.heap[g]? = some (.cells cur 130 (0, 0)) ∧ m.length ≤ c ∧ c ≤ maxLen ∧ cur.size = c * 2 ∧ cur.toList.take (m.length * 2) = xs ∧ xs.length = m.length * 2 ∧ ∀ (j : Nat) (x : Ent), m[j]? = some x → ∃ b ao n cap, xs[2 * j]? = some (.bool b) ∧ xs[2 * j + 1]? = some (.slice ao n cap) ∧ EnAt w S d x b ao n cap := by
  obtain ⟨xs, h2, h3⟩ := h
  rcases h2.2 with ⟨_, h0⟩ | ⟨g, c, cur, hv, hgs, hgc, hnc, hcm, hcs, htk⟩
  · exact absurd (by simpa using h0) hm
  · exact ⟨g, c, cur, xs, hv, hgs, hgc, hnc, hcm, hcs, htk, h2.1, h3⟩
/-- the entry at a place -/
theorem RoE.get {w : World} {S : Nat → Prop} {d B g c : Nat} {ao : Option Addr} {m : List Ent} (h : RoE w S d B (.slice (some ⟨g, 0, none⟩) m.length c) m) {j : Nat} {x : Ent} (hx : m[j]? = some x) : ∃ b ao n cap, w.cell? ⟨g, j * 2, none⟩ = some (.bool b) ∧ w.cell? ⟨g, j * 2 + 1, none⟩ = some (.slice ao n cap) ∧ EnAt w S d x b ao n cap := by
  obtain ⟨xs, h2, h3⟩ := h
  obtain ⟨b, ao, n, cap, g1, g2, g3⟩ := h3 j x hx
  have e1 := h2.cells (g := g) rfl (2 * j) _ g1
  have e2 := h2.cells (g := g) rfl (2 * j + 1) _ g2
  rw [addr_ad, Nat.mul_comm] at e1 e2
  exact ⟨b, ao, n, cap, e1, e2, g3⟩
set_option maxRecDepth 100000 in
theorem rev_1 {w : World} {S : Nat → Prop} {d B : Nat} {v : Value} {x : Ent} (h : RoE w S d B v [x]) : Calls Tryz.prog 78 #[v] w fun e w' => e = .returned (.tuple #[]) ∧ Hid (RoE w' S d B v [x] ∧ Only (fun b => v.ownBlock = some b) w w') := by
  obtain ⟨a, c, rfl⟩ := h.slice
  have F : Hid (RoE w S d B (.slice a [x].length c) [x] ∧ Only (fun b => (Value.slice a [x].length c).ownBlock = some b) w w) := ⟨h, Only.refl _ _⟩
  clear h
  simp only [List.length_cons, List.length_nil] at F ⊢
  go_enter Tryz.func78, Tryz.ntmps78
  go_wp2
  go_loopw [2, 3] (fun r q wr => r = .int .i64 0 ∧ q = .int .i64 0 ∧ Hid (RoE wr S d B (.slice a (0 + 1) c) [x] ∧ Only (fun b => (Value.slice a (0 + 1) c).ownBlock = some b) w wr)) (fun _ _ _ => 0)
  case atStart => exact ⟨rfl, rfl, F⟩
  case round =>
    obtain ⟨rfl, rfl, HI⟩ := hrel
    obtain ⟨w5, hw5⟩ : ∃ w5, w5 = wr := ⟨_, rfl⟩
    rw [← hw5] at HI ⊢
    clear hw5 F
    go_wp2
    first | (refine bodyPost_ret (results_none rfl _ _ _) rfl ?_; exact ⟨rfl, HI.out⟩) | (refine ⟨_, results_none rfl _ _ _, rfl, HI.out⟩) | (refine ⟨rfl, _, results_none rfl _ _ _, rfl, HI.out⟩)
set_option maxRecDepth 100000 in
set_option maxHeartbeats 1000000 in
theorem rev_2 {w : World} {S : Nat → Prop} {d B : Nat} {v : Value} {x y : Ent} (h : RoE w S d B v [x, y]) (hS : ∀ b, S b → v.ownBlock ≠ some b) : Calls Tryz.prog 78 #[v] w fun e w' => e = .returned (.tuple #[]) ∧ Hid (RoE w' S d B v [y, x] ∧ Only (fun b => v.ownBlock = some b) w w') := by
  obtain ⟨g, c, cur, xs, hv, hB, hg, hc, hm, hcs, htk, hxl, h3⟩ := h.at (by simp)
  obtain ⟨b0, a0, n0, p0, q0, r0, e0⟩ := h3 0 x rfl
  obtain ⟨b1, a1, n1, p1, q1, r1, e1⟩ := h3 1 y rfl
  simp only [List.length_cons, List.length_nil] at hv hc htk hxl
  have hx : xs = [Value.bool b0, Value.slice a0 n0 p0, Value.bool b1, Value.slice a1 n1 p1] := by
    match xs, hxl with
    | [u0, t0, u1, t1], _ =>
      simp at q0 r0 q1 r1
      simp [q0, r0, q1, r1]
  have hcur : cur.toList = [Value.bool b0, Value.slice a0 n0 p0, Value.bool b1, Value.slice a1 n1 p1] ++ cur.toList.drop 4 := by
    conv => lhs; rw [← List.take_append_drop 4 cur.toList]
    rw [← hx, ← htk]
  obtain ⟨rest, hrest⟩ : ∃ rest, rest = cur.toList.drop 4 := ⟨_, rfl⟩
  rw [← hrest] at hcur
  have hcu : cur = ([Value.bool b0, Value.slice a0 n0 p0, Value.bool b1, Value.slice a1 n1 p1] ++ rest).toArray := by
    rw [← hcur]
  have hrl : rest.length + 4 = c * 2 := by
    rw [hcu] at hcs
    simp at hcs
    omega
  rw [hcu] at hg
  have f0 : ∀ j, w.frozen? ⟨g, j, none⟩ = false := fun j => eblk_froz hg j
  have k0 : w.cell? ⟨g, 0, none⟩ = some (.bool b0) := (vblk_cells hg 0).trans (by simp)
  have k1 : w.cell? ⟨g, 1, none⟩ = some (.slice a0 n0 p0) := (vblk_cells hg 1).trans (by simp)
  have k2 : w.cell? ⟨g, 2, none⟩ = some (.bool b1) := (vblk_cells hg 2).trans (by simp)
  have k3 : w.cell? ⟨g, 3, none⟩ = some (.slice a1 n1 p1) := (vblk_cells hg 3).trans (by simp)
  have hW1 := heap_setCell_same w g 0 _ _ (.bool b1) hg
  have hW2 := heap_setCell_same _ g 1 _ _ (.slice a1 n1 p1) hW1
  have hW3 := heap_setCell_same _ g 2 _ _ (.bool b0) hW2
  have hW4 := heap_setCell_same _ g 3 _ _ (.slice a0 n0 p0) hW3
  have oo : Only (fun b => b = g) w ((((w.setCell ⟨g, 0, none⟩ (.bool b1)).setCell ⟨g, 1, none⟩ (.slice a1 n1 p1)).setCell ⟨g, 2, none⟩ (.bool b0)).setCell ⟨g, 3, none⟩ (.slice a0 n0 p0)) := ((((Only.refl (fun b => b = g) w).setCell _ _ (fun _ => rfl)).setCell _ _ (fun _ => rfl)).setCell _ _ (fun _ => rfl)).setCell _ _ (fun _ => rfl)
  have hSg : ∀ b, S b → ¬ b = g := fun b hb e => hS b hb (by rw [hv, e]; rfl)
  have F0 : RoE ((((w.setCell ⟨g, 0, none⟩ (.bool b1)).setCell ⟨g, 1, none⟩ (.slice a1 n1 p1)).setCell ⟨g, 2, none⟩ (.bool b0)).setCell ⟨g, 3, none⟩ (.slice a0 n0 p0)) S d B v [y, x] ∧ Only (fun b => v.ownBlock = some b) w ((((w.setCell ⟨g, 0, none⟩ (.bool b1)).setCell ⟨g, 1, none⟩ (.slice a1 n1 p1)).setCell ⟨g, 2, none⟩ (.bool b0)).setCell ⟨g, 3, none⟩ (.slice a0 n0 p0)) := by
    refine ⟨⟨[Value.bool b1, Value.slice a1 n1 p1, Value.bool b0, Value.slice a0 n0 p0], ⟨by simp, .inr ⟨g, c, ([Value.bool b1, Value.slice a1 n1 p1, Value.bool b0, Value.slice a0 n0 p0] ++ rest).toArray, hv, hB, ?_, by simpa using hc, hm, by simp; omega, by simp⟩⟩, fun j q hq => ?_⟩, oo.mono (fun k _ ek => by rw [hv, ek]; rfl)⟩
    · rw [hW4]
      simp
    · match j, hq with
      | 0, hq => simp at hq; subst hq; exact ⟨b1, a1, n1, p1, rfl, rfl, e1.only oo hSg⟩
      | 1, hq => simp at hq; subst hq; exact ⟨b0, a0, n0, p0, rfl, rfl, e0.only oo hSg⟩
      | j + 2, hq => simp at hq
  have F : Hid (RoE (((((w.setCell ⟨g, 0, none⟩ (.bool b1)).setCell ⟨g, 1, none⟩ (.slice a1 n1 p1)).setCell ⟨g, 2, none⟩ (.bool b0)).setCell ⟨g, 3, none⟩ (.slice a0 n0 p0))).drew S d B v [y, x] ∧ Only (fun b => v.ownBlock = some b) w (((((w.setCell ⟨g, 0, none⟩ (.bool b1)).setCell ⟨g, 1, none⟩ (.slice a1 n1 p1)).setCell ⟨g, 2, none⟩ (.bool b0)).setCell ⟨g, 3, none⟩ (.slice a0 n0 p0))).drew) := ⟨F0.1.only ((Only.refl (fun _ => False) _).drew) (fun _ _ g => g) (fun _ _ g => g), F0.2.drew⟩
  have z0 : ∀ j, w.drew.frozen? ⟨g, j, none⟩ = false := f0
  have fz : ∀ (j i : Nat) (u : Value), (w.setCell ⟨g, i, none⟩ u).frozen? ⟨g, j, none⟩ = false := fun j i u => by rw [World.frozen?_setCell]; exact f0 j
  have l0 : w.drew.cell? ⟨g, 0, none⟩ = some (.bool b0) := k0
  have l1 : w.drew.cell? ⟨g, 1, none⟩ = some (.slice a0 n0 p0) := k1
  have l2 : w.drew.cell? ⟨g, 2, none⟩ = some (.bool b1) := k2
  have l3 : w.drew.cell? ⟨g, 3, none⟩ = some (.slice a1 n1 p1) := k3
  have ne : ∀ (W : World) (i j : Nat) (v : Value), i ≠ j → (W.setCell ⟨g, i, none⟩ v).cell? ⟨g, j, none⟩ = W.cell? ⟨g, j, none⟩ := fun W i j v g => by apply World.cell?_setCell_other; intro e; exact g (by injection e)
  have m2 : ((w.setCell ⟨g, 0, none⟩ (.bool b1)).setCell ⟨g, 1, none⟩ (.slice a1 n1 p1)).cell? ⟨g, 2, none⟩ = some (.bool b1) := by rw [ne _ _ _ _ (by omega), ne _ _ _ _ (by omega)]; exact k2
  have m3 : ((w.setCell ⟨g, 0, none⟩ (.bool b1)).setCell ⟨g, 1, none⟩ (.slice a1 n1 p1)).cell? ⟨g, 3, none⟩ = some (.slice a1 n1 p1) := by rw [ne _ _ _ _ (by omega), ne _ _ _ _ (by omega)]; exact k3
  have m2d : ((w.setCell ⟨g, 0, none⟩ (.bool b1)).setCell ⟨g, 1, none⟩ (.slice a1 n1 p1)).drew.cell? ⟨g, 2, none⟩ = some (.bool b1) := m2
  have m3d : ((w.setCell ⟨g, 0, none⟩ (.bool b1)).setCell ⟨g, 1, none⟩ (.slice a1 n1 p1)).drew.cell? ⟨g, 3, none⟩ = some (.slice a1 n1 p1) := m3
  have fy : ∀ j, ((w.setCell ⟨g, 0, none⟩ (.bool b1)).setCell ⟨g, 1, none⟩ (.slice a1 n1 p1)).frozen? ⟨g, j, none⟩ = false := fun j => by rw [World.frozen?_setCell, World.frozen?_setCell]; exact f0 j
  have fyd : ∀ j, ((w.setCell ⟨g, 0, none⟩ (.bool b1)).setCell ⟨g, 1, none⟩ (.slice a1 n1 p1)).drew.frozen? ⟨g, j, none⟩ = false := fy
  have hvv : v = .slice (some ⟨g, 0, none⟩) 2 c := hv
  clear h hS hB hg hc hm hcs htk hxl h3 q0 r0 e0 q1 r1 e1 hx hcur hrest hcu hrl hW1 hW2 hW3 hW4 oo hSg F0 hv ne
  subst hvv
  go_enter Tryz.func78, Tryz.ntmps78
  go_wp2
  go_loopw [2, 3] (fun r q wr => (r = .int .i64 0 ∧ q = .int .i64 1 ∧ Hid (wr = w)) ∨ (r = .int .i64 1 ∧ q = .int .i64 0 ∧ Hid (RoE wr S d B (.slice (some ⟨g, 0, none⟩) 2 c) [y, x] ∧ Only (fun b => (Value.slice (some ⟨g, 0, none⟩) 2 c).ownBlock = some b) w wr))) (fun r _ _ => 1 - vuOf r)
  case atStart => exact .inl ⟨rfl, rfl, rfl⟩
  case round =>
    rcases hrel with ⟨rfl, rfl, HI⟩ | ⟨rfl, rfl, HI⟩
    · have hw5 := HI.out
      subst hw5
      clear HI
      go_wp2
      go_region
      go_wp2
      go_roundw
      case rel => exact .inr ⟨by go_num, by go_num, F.out⟩
      case measure => simp [vuOf]
    · obtain ⟨w5, hw5⟩ : ∃ w5, w5 = wr := ⟨_, rfl⟩
      rw [← hw5] at HI ⊢
      clear hw5 F
      go_wp2
      first | (refine bodyPost_ret (results_none rfl _ _ _) rfl ?_; exact ⟨rfl, HI.out⟩) | (refine ⟨_, results_none rfl _ _ _, rfl, HI.out⟩) | (refine ⟨rfl, _, results_none rfl _ _ _, rfl, HI.out⟩)
set_option maxRecDepth 100000 in
set_option maxHeartbeats 1000000 in
theorem rev_3 {w : World} {S : Nat → Prop} {d B : Nat} {v : Value} {x y z : Ent} (h : RoE w S d B v [x, y, z]) (hS : ∀ b, S b → v.ownBlock ≠ some b) : Calls Tryz.prog 78 #[v] w fun e w' => e = .returned (.tuple #[]) ∧ Hid (RoE w' S d B v [z, y, x] ∧ Only (fun b => v.ownBlock = some b) w w') := by
  obtain ⟨g, c, cur, xs, hv, hB, hg, hc, hm, hcs, htk, hxl, h3⟩ := h.at (by simp)
  obtain ⟨b0, a0, n0, p0, q0, r0, e0⟩ := h3 0 x rfl
  obtain ⟨b1, a1, n1, p1, q1, r1, e1⟩ := h3 1 y rfl
  obtain ⟨b2, a2, n2, p2, q2, r2, e2⟩ := h3 2 z rfl
  simp only [List.length_cons, List.length_nil] at hv hc htk hxl
  have hx : xs = [Value.bool b0, Value.slice a0 n0 p0, Value.bool b1, Value.slice a1 n1 p1, Value.bool b2, Value.slice a2 n2 p2] := by
    match xs, hxl with
    | [u0, t0, u1, t1, u2, t2], _ =>
      simp at q0 r0 q1 r1 q2 r2
      simp [q0, r0, q1, r1, q2, r2]
  have hcur : cur.toList = [Value.bool b0, Value.slice a0 n0 p0, Value.bool b1, Value.slice a1 n1 p1, Value.bool b2, Value.slice a2 n2 p2] ++ cur.toList.drop 6 := by
    conv => lhs; rw [← List.take_append_drop 6 cur.toList]
    rw [← hx, ← htk]
  obtain ⟨rest, hrest⟩ : ∃ rest, rest = cur.toList.drop 6 := ⟨_, rfl⟩
  rw [← hrest] at hcur
  have hcu : cur = ([Value.bool b0, Value.slice a0 n0 p0, Value.bool b1, Value.slice a1 n1 p1, Value.bool b2, Value.slice a2 n2 p2] ++ rest).toArray := by
    rw [← hcur]
  have hrl : rest.length + 6 = c * 2 := by
    rw [hcu] at hcs
    simp at hcs
    omega
  rw [hcu] at hg
  have f0 : ∀ j, w.frozen? ⟨g, j, none⟩ = false := fun j => eblk_froz hg j
  have k0 : w.cell? ⟨g, 0, none⟩ = some (.bool b0) := (vblk_cells hg 0).trans (by simp)
  have k1 : w.cell? ⟨g, 1, none⟩ = some (.slice a0 n0 p0) := (vblk_cells hg 1).trans (by simp)
  have k2 : w.cell? ⟨g, 4, none⟩ = some (.bool b2) := (vblk_cells hg 4).trans (by simp)
  have k3 : w.cell? ⟨g, 5, none⟩ = some (.slice a2 n2 p2) := (vblk_cells hg 5).trans (by simp)
  have hW1 := heap_setCell_same w g 0 _ _ (.bool b2) hg
  have hW2 := heap_setCell_same _ g 1 _ _ (.slice a2 n2 p2) hW1
  have hW3 := heap_setCell_same _ g 4 _ _ (.bool b0) hW2
  have hW4 := heap_setCell_same _ g 5 _ _ (.slice a0 n0 p0) hW3
  have oo : Only (fun b => b = g) w ((((w.setCell ⟨g, 0, none⟩ (.bool b2)).setCell ⟨g, 1, none⟩ (.slice a2 n2 p2)).setCell ⟨g, 4, none⟩ (.bool b0)).setCell ⟨g, 5, none⟩ (.slice a0 n0 p0)) := ((((Only.refl (fun b => b = g) w).setCell _ _ (fun _ => rfl)).setCell _ _ (fun _ => rfl)).setCell _ _ (fun _ => rfl)).setCell _ _ (fun _ => rfl)
  have hSg : ∀ b, S b → ¬ b = g := fun b hb e => hS b hb (by rw [hv, e]; rfl)
  have F0 : RoE ((((w.setCell ⟨g, 0, none⟩ (.bool b2)).setCell ⟨g, 1, none⟩ (.slice a2 n2 p2)).setCell ⟨g, 4, none⟩ (.bool b0)).setCell ⟨g, 5, none⟩ (.slice a0 n0 p0)) S d B v [z, y, x] ∧ Only (fun b => v.ownBlock = some b) w ((((w.setCell ⟨g, 0, none⟩ (.bool b2)).setCell ⟨g, 1, none⟩ (.slice a2 n2 p2)).setCell ⟨g, 4, none⟩ (.bool b0)).setCell ⟨g, 5, none⟩ (.slice a0 n0 p0)) := by
    refine ⟨⟨[Value.bool b2, Value.slice a2 n2 p2, Value.bool b1, Value.slice a1 n1 p1, Value.bool b0, Value.slice a0 n0 p0], ⟨by simp, .inr ⟨g, c, ([Value.bool b2, Value.slice a2 n2 p2, Value.bool b1, Value.slice a1 n1 p1, Value.bool b0, Value.slice a0 n0 p0] ++ rest).toArray, hv, hB, ?_, by simpa using hc, hm, by simp; omega, by simp⟩⟩, fun j q hq => ?_⟩, oo.mono (fun k _ ek => by rw [hv, ek]; rfl)⟩
    · rw [hW4]
      simp
    · match j, hq with
      | 0, hq => simp at hq; subst hq; exact ⟨b2, a2, n2, p2, rfl, rfl, e2.only oo hSg⟩
      | 1, hq => simp at hq; subst hq; exact ⟨b1, a1, n1, p1, rfl, rfl, e1.only oo hSg⟩
      | 2, hq => simp at hq; subst hq; exact ⟨b0, a0, n0, p0, rfl, rfl, e0.only oo hSg⟩
      | j + 3, hq => simp at hq
  have F : Hid (RoE (((((w.setCell ⟨g, 0, none⟩ (.bool b2)).setCell ⟨g, 1, none⟩ (.slice a2 n2 p2)).setCell ⟨g, 4, none⟩ (.bool b0)).setCell ⟨g, 5, none⟩ (.slice a0 n0 p0))).drew S d B v [z, y, x] ∧ Only (fun b => v.ownBlock = some b) w (((((w.setCell ⟨g, 0, none⟩ (.bool b2)).setCell ⟨g, 1, none⟩ (.slice a2 n2 p2)).setCell ⟨g, 4, none⟩ (.bool b0)).setCell ⟨g, 5, none⟩ (.slice a0 n0 p0))).drew) := ⟨F0.1.only ((Only.refl (fun _ => False) _).drew) (fun _ _ g => g) (fun _ _ g => g), F0.2.drew⟩
  have z0 : ∀ j, w.drew.frozen? ⟨g, j, none⟩ = false := f0
  have fz : ∀ (j i : Nat) (u : Value), (w.setCell ⟨g, i, none⟩ u).frozen? ⟨g, j, none⟩ = false := fun j i u => by rw [World.frozen?_setCell]; exact f0 j
  have l0 : w.drew.cell? ⟨g, 0, none⟩ = some (.bool b0) := k0
  have l1 : w.drew.cell? ⟨g, 1, none⟩ = some (.slice a0 n0 p0) := k1
  have l2 : w.drew.cell? ⟨g, 4, none⟩ = some (.bool b2) := k2
  have l3 : w.drew.cell? ⟨g, 5, none⟩ = some (.slice a2 n2 p2) := k3
  have ne : ∀ (W : World) (i j : Nat) (v : Value), i ≠ j → (W.setCell ⟨g, i, none⟩ v).cell? ⟨g, j, none⟩ = W.cell? ⟨g, j, none⟩ := fun W i j v g => by apply World.cell?_setCell_other; intro e; exact g (by injection e)
  have m2 : ((w.setCell ⟨g, 0, none⟩ (.bool b2)).setCell ⟨g, 1, none⟩ (.slice a2 n2 p2)).cell? ⟨g, 4, none⟩ = some (.bool b2) := by rw [ne _ _ _ _ (by omega), ne _ _ _ _ (by omega)]; exact k2
  have m3 : ((w.setCell ⟨g, 0, none⟩ (.bool b2)).setCell ⟨g, 1, none⟩ (.slice a2 n2 p2)).cell? ⟨g, 5, none⟩ = some (.slice a2 n2 p2) := by rw [ne _ _ _ _ (by omega), ne _ _ _ _ (by omega)]; exact k3
  have m2d : ((w.setCell ⟨g, 0, none⟩ (.bool b2)).setCell ⟨g, 1, none⟩ (.slice a2 n2 p2)).drew.cell? ⟨g, 4, none⟩ = some (.bool b2) := m2
  have m3d : ((w.setCell ⟨g, 0, none⟩ (.bool b2)).setCell ⟨g, 1, none⟩ (.slice a2 n2 p2)).drew.cell? ⟨g, 5, none⟩ = some (.slice a2 n2 p2) := m3
  have fy : ∀ j, ((w.setCell ⟨g, 0, none⟩ (.bool b2)).setCell ⟨g, 1, none⟩ (.slice a2 n2 p2)).frozen? ⟨g, j, none⟩ = false := fun j => by rw [World.frozen?_setCell, World.frozen?_setCell]; exact f0 j
  have fyd : ∀ j, ((w.setCell ⟨g, 0, none⟩ (.bool b2)).setCell ⟨g, 1, none⟩ (.slice a2 n2 p2)).drew.frozen? ⟨g, j, none⟩ = false := fy
  have hvv : v = .slice (some ⟨g, 0, none⟩) 3 c := hv
  clear h hS hB hg hc hm hcs htk hxl h3 q0 r0 e0 q1 r1 e1 q2 r2 e2 hx hcur hrest hcu hrl hW1 hW2 hW3 hW4 oo hSg F0 hv ne
  subst hvv
  go_enter Tryz.func78, Tryz.ntmps78
  go_wp2
  go_loopw [2, 3] (fun r q wr => (r = .int .i64 0 ∧ q = .int .i64 2 ∧ Hid (wr = w)) ∨ (r = .int .i64 1 ∧ q = .int .i64 1 ∧ Hid (RoE wr S d B (.slice (some ⟨g, 0, none⟩) 3 c) [z, y, x] ∧ Only (fun b => (Value.slice (some ⟨g, 0, none⟩) 3 c).ownBlock = some b) w wr))) (fun r _ _ => 1 - vuOf r)
  case atStart => exact .inl ⟨rfl, rfl, rfl⟩
  case round =>
    rcases hrel with ⟨rfl, rfl, HI⟩ | ⟨rfl, rfl, HI⟩
    · have hw5 := HI.out
      subst hw5
      clear HI
      go_wp2
      go_region
      go_wp2
      go_roundw
      case rel => exact .inr ⟨by go_num, by go_num, F.out⟩
      case measure => simp [vuOf]
    · obtain ⟨w5, hw5⟩ : ∃ w5, w5 = wr := ⟨_, rfl⟩
      rw [← hw5] at HI ⊢
      clear hw5 F
      go_wp2
      first | (refine bodyPost_ret (results_none rfl _ _ _) rfl ?_; exact ⟨rfl, HI.out⟩) | (refine ⟨_, results_none rfl _ _ _, rfl, HI.out⟩) | (refine ⟨rfl, _, results_none rfl _ _ _, rfl, HI.out⟩)
end Go.Proofs.YtodbkihobgdpdaaGreatDoor
