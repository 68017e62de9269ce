/- FormTrees: the walk. -/
import Derived.Test.YtmpfbjmaiddigaaGreatDoorGap
import Derived.Test.YtmpfbjmaiddigaaGreatDoorGao
namespace Go.Proofs.YtmpfbjmaiddigaaGreatDoor
open Go.RowKit
set_option linter.unusedSimpArgs false
set_option linter.unusedVariables false
set_option maxRecDepth 100000 in
theorem rf_info : ∃ i z, Tryz.prog.info? 75 = some i ∧ i.zero = some z ∧ i.size = 9 ∧ i.bytes = 120 ∧ z.cells.size = 9 := ⟨_, _, rfl, rfl, rfl, rfl, rfl⟩
theorem wp_region_post {P : Program} {id : Nat} {ops : Array Oper} {b : Bool} {Q : Exit → Act → World → Prop} {a : Act} {w : World} (R : Act → World → Prop) (h1 : (Code.region id ops b).wp P (fun e a' w' => e = .normal ∧ R a' w') a w) (h2 : ∀ a' w', R a' w' → Q .normal a' w') : (Code.region id ops b).wp P Q a w := by
  intro b' k cs
  obtain ⟨e, a', w', ⟨rfl, hr⟩, harr⟩ := h1 b' k cs
  exact ⟨_, a', w', h2 _ _ hr, harr⟩
theorem VrAt.only2 {w w' : World} {B d : Nat} {v : Value} {l : List Tre} {bs : Nat → Prop} (h : VrAt w B d v l) (o : Only bs w w') (hb : ∀ b, B ≤ b → b < w.heap.size → ¬ bs b) : VrAt w' B d v l := by
  obtain ⟨us, S, ho, ht, hS⟩ := h
  refine ⟨us, S, o.owns ho (fun k hk => hb k (ho.lt k hk).1 (ho.lt k hk).2), fun j x hx => ?_, fun b hbS => ?_⟩
  · obtain ⟨lx, hu, h2⟩ := ht j x hx
    exact ⟨lx, hu, h2.step (fun _ g => g) (fun a u hs hc => o.cell hc (hb _ (hS _ hs).1 (hS _ hs).2.1)) (Nat.le_refl _)⟩
  · obtain ⟨h1, h2, h3⟩ := hS b hbS
    exact ⟨h1, Nat.lt_of_lt_of_le h2 o.size, h3⟩
/-- a form under way: its block P -/
def FtK (w1 : World) (d : Nat) (body : List Tre) (fd : Bool) (fn : ByteArray) (fi fj : Int) (bL : Nat) (P : Nat) (ao : Option Addr) (cap : Nat) (W : World) : Prop :=
  W.heap[P]? = some (.cells #[.bool fd, .string fn, .int .i64 fi, .int .i64 fj, .slice ao bL cap, .int .i64 0, .int .i64 0, .string ⟨#[]⟩, .slice none 0 0] 75) ∧ w1.heap.size ≤ P ∧ Only (fun _ => False) w1 W ∧ ∀ W2, Only (fun b => b = P) W W2 → VrAt W2 w1.heap.size d (.slice ao bL cap) body
theorem ftA {w1 w2 : World} {d : Nat} {body : List Tre} {fd : Bool} {fn : ByteArray} {fi fj : Int} {bL : Nat} {ao : Option Addr} {cap : Nat} (h1 : VrAt w2 w1.heap.size d (.slice ao bL cap) body) (h2 : Only (fun _ => False) w1.drew w2) : FtK w1 d body fd fn fi fj bL w2.heap.size ao cap (w2.alloc (.cells #[.bool fd, .string fn, .int .i64 fi, .int .i64 fj, .slice ao bL cap, .int .i64 0, .int .i64 0, .string ⟨#[]⟩, .slice none 0 0] 75)) := by
  have hs : w1.heap.size ≤ w2.heap.size := h2.size
  refine ⟨alloc_at _ _ _ rfl, hs, ((Only.refl _ w1).drew.trans h2 (fun _ _ g => g)).alloc _, fun W2 o2 => ?_⟩
  have o3 : Only (fun b => b = w2.heap.size) w2 W2 := ((Only.refl (fun b => b = w2.heap.size) w2).alloc _).trans o2 (fun _ _ g => g)
  exact h1.only2 o3 (fun b hb h e => by omega)
theorem ftB {w1 w2 : World} {d : Nat} {body : List Tre} {fd : Bool} {fn : ByteArray} {fi fj : Int} {bL : Nat} {ao : Option Addr} {cap : Nat} (h1 : VrAt w2 (w1.heap.size + 1) d (.slice ao bL cap) body) (h2 : Only (fun _ => False) (w1.drew.alloc (.cells #[.bool false, .string ⟨#[]⟩, .int .i64 0, .int .i64 0, .slice none 0 0, .int .i64 0, .int .i64 0, .string ⟨#[]⟩, .slice none 0 0] 75)) w2) : FtK w1 d body fd fn fi fj bL w1.heap.size ao cap (((((((((w2.setCell ⟨w1.heap.size, 0, none⟩ (.bool fd)).setCell ⟨w1.heap.size, 1, none⟩ (.string fn)).setCell ⟨w1.heap.size, 2, none⟩ (.int .i64 fi)).setCell ⟨w1.heap.size, 3, none⟩ (.int .i64 fj)).setCell ⟨w1.heap.size, 4, none⟩ (.slice ao bL cap)).setCell ⟨w1.heap.size, 5, none⟩ (.int .i64 0)).setCell ⟨w1.heap.size, 6, none⟩ (.int .i64 0)).setCell ⟨w1.heap.size, 7, none⟩ (.string ⟨#[]⟩)).setCell ⟨w1.heap.size, 8, none⟩ (.slice none 0 0)) := by
  have hs : w1.heap.size + 1 ≤ w2.heap.size := by have := h2.size; simpa using this
  have b0 : w2.heap[w1.heap.size]? = some (.cells #[.bool false, .string ⟨#[]⟩, .int .i64 0, .int .i64 0, .slice none 0 0, .int .i64 0, .int .i64 0, .string ⟨#[]⟩, .slice none 0 0] 75) := (h2.block w1.heap.size (by simp) (fun h => h)).trans (alloc_at _ _ _ rfl)
  have g0 : (w2.setCell ⟨w1.heap.size, 0, none⟩ (.bool fd)).heap[w1.heap.size]? = some (.cells #[.bool fd, .string ⟨#[]⟩, .int .i64 0, .int .i64 0, .slice none 0 0, .int .i64 0, .int .i64 0, .string ⟨#[]⟩, .slice none 0 0] 75) := (heap_setCell_same _ w1.heap.size 0 _ _ (.bool fd) b0).trans rfl
  have g1 : ((w2.setCell ⟨w1.heap.size, 0, none⟩ (.bool fd)).setCell ⟨w1.heap.size, 1, none⟩ (.string fn)).heap[w1.heap.size]? = some (.cells #[.bool fd, .string fn, .int .i64 0, .int .i64 0, .slice none 0 0, .int .i64 0, .int .i64 0, .string ⟨#[]⟩, .slice none 0 0] 75) := (heap_setCell_same _ w1.heap.size 1 _ _ (.string fn) g0).trans rfl
  have g2 : (((w2.setCell ⟨w1.heap.size, 0, none⟩ (.bool fd)).setCell ⟨w1.heap.size, 1, none⟩ (.string fn)).setCell ⟨w1.heap.size, 2, none⟩ (.int .i64 fi)).heap[w1.heap.size]? = some (.cells #[.bool fd, .string fn, .int .i64 fi, .int .i64 0, .slice none 0 0, .int .i64 0, .int .i64 0, .string ⟨#[]⟩, .slice none 0 0] 75) := (heap_setCell_same _ w1.heap.size 2 _ _ (.int .i64 fi) g1).trans rfl
  have g3 : ((((w2.setCell ⟨w1.heap.size, 0, none⟩ (.bool fd)).setCell ⟨w1.heap.size, 1, none⟩ (.string fn)).setCell ⟨w1.heap.size, 2, none⟩ (.int .i64 fi)).setCell ⟨w1.heap.size, 3, none⟩ (.int .i64 fj)).heap[w1.heap.size]? = some (.cells #[.bool fd, .string fn, .int .i64 fi, .int .i64 fj, .slice none 0 0, .int .i64 0, .int .i64 0, .string ⟨#[]⟩, .slice none 0 0] 75) := (heap_setCell_same _ w1.heap.size 3 _ _ (.int .i64 fj) g2).trans rfl
  have g4 : (((((w2.setCell ⟨w1.heap.size, 0, none⟩ (.bool fd)).setCell ⟨w1.heap.size, 1, none⟩ (.string fn)).setCell ⟨w1.heap.size, 2, none⟩ (.int .i64 fi)).setCell ⟨w1.heap.size, 3, none⟩ (.int .i64 fj)).setCell ⟨w1.heap.size, 4, none⟩ (.slice ao bL cap)).heap[w1.heap.size]? = some (.cells #[.bool fd, .string fn, .int .i64 fi, .int .i64 fj, .slice ao bL cap, .int .i64 0, .int .i64 0, .string ⟨#[]⟩, .slice none 0 0] 75) := (heap_setCell_same _ w1.heap.size 4 _ _ (.slice ao bL cap) g3).trans rfl
  have g5 : ((((((w2.setCell ⟨w1.heap.size, 0, none⟩ (.bool fd)).setCell ⟨w1.heap.size, 1, none⟩ (.string fn)).setCell ⟨w1.heap.size, 2, none⟩ (.int .i64 fi)).setCell ⟨w1.heap.size, 3, none⟩ (.int .i64 fj)).setCell ⟨w1.heap.size, 4, none⟩ (.slice ao bL cap)).setCell ⟨w1.heap.size, 5, none⟩ (.int .i64 0)).heap[w1.heap.size]? = some (.cells #[.bool fd, .string fn, .int .i64 fi, .int .i64 fj, .slice ao bL cap, .int .i64 0, .int .i64 0, .string ⟨#[]⟩, .slice none 0 0] 75) := (heap_setCell_same _ w1.heap.size 5 _ _ (.int .i64 0) g4).trans rfl
  have g6 : (((((((w2.setCell ⟨w1.heap.size, 0, none⟩ (.bool fd)).setCell ⟨w1.heap.size, 1, none⟩ (.string fn)).setCell ⟨w1.heap.size, 2, none⟩ (.int .i64 fi)).setCell ⟨w1.heap.size, 3, none⟩ (.int .i64 fj)).setCell ⟨w1.heap.size, 4, none⟩ (.slice ao bL cap)).setCell ⟨w1.heap.size, 5, none⟩ (.int .i64 0)).setCell ⟨w1.heap.size, 6, none⟩ (.int .i64 0)).heap[w1.heap.size]? = some (.cells #[.bool fd, .string fn, .int .i64 fi, .int .i64 fj, .slice ao bL cap, .int .i64 0, .int .i64 0, .string ⟨#[]⟩, .slice none 0 0] 75) := (heap_setCell_same _ w1.heap.size 6 _ _ (.int .i64 0) g5).trans rfl
  have g7 : ((((((((w2.setCell ⟨w1.heap.size, 0, none⟩ (.bool fd)).setCell ⟨w1.heap.size, 1, none⟩ (.string fn)).setCell ⟨w1.heap.size, 2, none⟩ (.int .i64 fi)).setCell ⟨w1.heap.size, 3, none⟩ (.int .i64 fj)).setCell ⟨w1.heap.size, 4, none⟩ (.slice ao bL cap)).setCell ⟨w1.heap.size, 5, none⟩ (.int .i64 0)).setCell ⟨w1.heap.size, 6, none⟩ (.int .i64 0)).setCell ⟨w1.heap.size, 7, none⟩ (.string ⟨#[]⟩)).heap[w1.heap.size]? = some (.cells #[.bool fd, .string fn, .int .i64 fi, .int .i64 fj, .slice ao bL cap, .int .i64 0, .int .i64 0, .string ⟨#[]⟩, .slice none 0 0] 75) := (heap_setCell_same _ w1.heap.size 7 _ _ (.string ⟨#[]⟩) g6).trans rfl
  have g8 : (((((((((w2.setCell ⟨w1.heap.size, 0, none⟩ (.bool fd)).setCell ⟨w1.heap.size, 1, none⟩ (.string fn)).setCell ⟨w1.heap.size, 2, none⟩ (.int .i64 fi)).setCell ⟨w1.heap.size, 3, none⟩ (.int .i64 fj)).setCell ⟨w1.heap.size, 4, none⟩ (.slice ao bL cap)).setCell ⟨w1.heap.size, 5, none⟩ (.int .i64 0)).setCell ⟨w1.heap.size, 6, none⟩ (.int .i64 0)).setCell ⟨w1.heap.size, 7, none⟩ (.string ⟨#[]⟩)).setCell ⟨w1.heap.size, 8, none⟩ (.slice none 0 0)).heap[w1.heap.size]? = some (.cells #[.bool fd, .string fn, .int .i64 fi, .int .i64 fj, .slice ao bL cap, .int .i64 0, .int .i64 0, .string ⟨#[]⟩, .slice none 0 0] 75) := (heap_setCell_same _ w1.heap.size 8 _ _ (.slice none 0 0) g7).trans rfl
  have o9 : Only (fun b => b = w1.heap.size) w2 (((((((((w2.setCell ⟨w1.heap.size, 0, none⟩ (.bool fd)).setCell ⟨w1.heap.size, 1, none⟩ (.string fn)).setCell ⟨w1.heap.size, 2, none⟩ (.int .i64 fi)).setCell ⟨w1.heap.size, 3, none⟩ (.int .i64 fj)).setCell ⟨w1.heap.size, 4, none⟩ (.slice ao bL cap)).setCell ⟨w1.heap.size, 5, none⟩ (.int .i64 0)).setCell ⟨w1.heap.size, 6, none⟩ (.int .i64 0)).setCell ⟨w1.heap.size, 7, none⟩ (.string ⟨#[]⟩)).setCell ⟨w1.heap.size, 8, none⟩ (.slice none 0 0)) := ((((((((((Only.refl (fun b => b = w1.heap.size) w2).setCell ⟨w1.heap.size, 0, none⟩ (.bool fd) (fun _ => rfl)).setCell ⟨w1.heap.size, 1, none⟩ (.string fn) (fun _ => rfl)).setCell ⟨w1.heap.size, 2, none⟩ (.int .i64 fi) (fun _ => rfl)).setCell ⟨w1.heap.size, 3, none⟩ (.int .i64 fj) (fun _ => rfl)).setCell ⟨w1.heap.size, 4, none⟩ (.slice ao bL cap) (fun _ => rfl)).setCell ⟨w1.heap.size, 5, none⟩ (.int .i64 0) (fun _ => rfl)).setCell ⟨w1.heap.size, 6, none⟩ (.int .i64 0) (fun _ => rfl)).setCell ⟨w1.heap.size, 7, none⟩ (.string ⟨#[]⟩) (fun _ => rfl)).setCell ⟨w1.heap.size, 8, none⟩ (.slice none 0 0) (fun _ => rfl))
  refine ⟨g8, Nat.le_refl _, (((Only.refl _ w1).drew.alloc _).trans h2 (fun _ _ g => g)).trans o9 (fun b h e => by omega), fun W2 o2 => ?_⟩
  exact (h1.only (o9.trans o2 (fun _ _ g => g)) (fun b hb e => by omega)).lower (by omega)
/-- a form of the document is put behind a row -/
theorem app_rf {w : World} {B C d : Nat} {v : Value} {acc : List Fm} {fm : Fm} {bl il : Value} (hf : VfAt w B d v acc) (hn : NvAt w C d (bdT fm) bl) (hn2 : NvAt w C d fm.it il) (hC : B ≤ C) (hv : ∀ k, v.ownBlock = some k → k < C) (hB : B ≤ w.heap.size) (hl : acc.length ≤ 4096) :
    ∃ v' w', (∀ ty, (Builtin.append_ #[44, 44] ty #[v, .slice (some ⟨w.heap.size, 0, none⟩) 1 1]).run Tryz.prog (w.alloc (.cells #[.bool fm.d, .string fm.nm, .int .i64 (fm.i : Int), .int .i64 (fm.j : Int), bl, .int .i64 (fm.it.k : Int), .int .i64 (vn fm.it), .string (vs fm.it), il] 75)) = .ok v' w') ∧ VfAt w' B d v' (acc ++ [fm]) ∧ Only (fun k => B ≤ k) w w' := by
  obtain ⟨i0, z0, hi, hz0, hz1, hz2, hz3⟩ := rf_info
  obtain ⟨W, hW⟩ : ∃ W, W = w.alloc (.cells #[.bool fm.d, .string fm.nm, .int .i64 (fm.i : Int), .int .i64 (fm.j : Int), bl, .int .i64 (fm.it.k : Int), .int .i64 (vn fm.it), .string (vs fm.it), il] 75) := ⟨_, rfl⟩
  have oo : Only (fun _ => False) w W := by rw [hW]; exact (Only.refl _ w).alloc _
  have hf2 := hf.only oo (fun _ _ h => h)
  have hn3 := hn.only oo (fun _ _ h => h)
  have hn4 := hn2.only oo (fun _ _ h => h)
  have hblk : W.heap[w.heap.size]? = some (.cells #[.bool fm.d, .string fm.nm, .int .i64 (fm.i : Int), .int .i64 (fm.j : Int), bl, .int .i64 (fm.it.k : Int), .int .i64 (vn fm.it), .string (vs fm.it), il] 75) := by rw [hW]; exact alloc_at _ _ _ rfl
  obtain ⟨us, S, ho, ht, hS⟩ := hf2
  obtain ⟨a1, c1, e1⟩ := hn.form
  obtain ⟨a2, c2, e2⟩ := hn2.form
  have key := fun ty => run_append_own_at (P := Tryz.prog) W B 44 ty 75 i0 z0 9 120 Tryz.underlying44 hi hz0 hz1 hz2 hz3 (by omega) v acc.length us ho ⟨w.heap.size, 0, none⟩ 1 1 (fC fm bl il) rfl (by
      intro j u hj
      rw [addr_ad, blk_cells hblk]
      simpa [fC] using hj) (by
      intro u hu
      simp only [fC, List.mem_cons, List.not_mem_nil, or_false] at hu
      rcases hu with rfl | rfl | rfl | rfl | rfl | rfl | rfl | rfl | rfl
      · rfl
      · rfl
      · rfl
      · rfl
      · rw [e1]; rfl
      · rfl
      · rfl
      · rfl
      · rw [e2]; rfl) (by unfold maxLen; omega) (by omega) (by have := oo.size; omega)
  obtain ⟨v', w', hr, own', hg, _, hat⟩ := key 0
  refine ⟨v', w', fun ty => ?_, VfAt.snoc hg ho ht hS hn3 hn4 hC hv own' hat, oo.mono (bs' := fun k => B ≤ k) (fun _ _ h => h.elim) |>.trans ((Only.refl (fun k => v.ownBlock = some k) W).grown hg (fun k e _ => e)) (fun k hk e => (ho.lt k e).1)⟩
  rw [← hW, ← hr]
  rfl
theorem wpList_append_run {P : Program} {op : Oper} {a : Act} {w w' : World} {Q : Exit → Act → World → Prop} {ops : Array Oper} {rest : List Oper} (hgd : op.guard = none) (s x : Operand) (t : TypeId) (ho : op.op = .call { callee := .builtin .append, args := #[s, x], argTypes := #[t, t] }) (v1 v2 v' : Value) (hs : a.eval s = v1) (hx : a.eval x = v2)
    (hr : ∀ ty, (Builtin.append_ #[t, t] ty #[v1, v2]).run P w = .ok v' w') (h : wpList P ops Q rest (a.put op.dst v') w') : wpList P ops Q (op :: rest) a w :=
  wpList_plain hgd fun _ hK => wp_append_run s x t ho v1 v2 v' hs hx (hr _) (hK _ _ h)
theorem only9 {w W : World} {B : Nat} (h : Only (fun _ => False) w W) (hB : w.heap.size ≤ B) (x0 x1 x2 x3 x4 x5 x6 x7 x8 : Value) : Only (fun _ => False) w (((((((((W.setCell ⟨B, 0, none⟩ x0).setCell ⟨B, 1, none⟩ x1).setCell ⟨B, 2, none⟩ x2).setCell ⟨B, 3, none⟩ x3).setCell ⟨B, 4, none⟩ x4).setCell ⟨B, 5, none⟩ x5).setCell ⟨B, 6, none⟩ x6).setCell ⟨B, 7, none⟩ x7).setCell ⟨B, 8, none⟩ x8) :=
  (((((((((h.setCell ⟨B, 0, none⟩ x0 (fun g => absurd g (by simp only; omega))).setCell ⟨B, 1, none⟩ x1 (fun g => absurd g (by simp only; omega))).setCell ⟨B, 2, none⟩ x2 (fun g => absurd g (by simp only; omega))).setCell ⟨B, 3, none⟩ x3 (fun g => absurd g (by simp only; omega))).setCell ⟨B, 4, none⟩ x4 (fun g => absurd g (by simp only; omega))).setCell ⟨B, 5, none⟩ x5 (fun g => absurd g (by simp only; omega))).setCell ⟨B, 6, none⟩ x6 (fun g => absurd g (by simp only; omega))).setCell ⟨B, 7, none⟩ x7 (fun g => absurd g (by simp only; omega))).setCell ⟨B, 8, none⟩ x8 (fun g => absurd g (by simp only; omega)))
set_option maxRecDepth 100000 in
set_option maxHeartbeats 40000000 in
theorem formtrees_any (d : Nat) (v : Value) (l : List Fm) (w : World) (S : Nat → Prop) (hq : FrAt w S d v l) (hl : l.length ≤ 4096) (hw : ∀ fm ∈ l, Wfm fm) : Calls Tryz.prog 12 #[v] w fun e w' => ∃ ao cap, e = .returned (.slice ao l.length cap) ∧ Hid (VfAt w' w.heap.size (d + 1) (.slice ao l.length cap) l ∧ Only (fun _ => False) w w') := by
  obtain ⟨av, cv, rfl, hel⟩ := hq
  have HE : Hid (∀ (j : Nat) (fm : Fm), l[j]? = some fm → ∃ g bv iv, av = some ⟨g, 0, none⟩ ∧ (w.cell? ⟨g, j * 6, none⟩ = some (.bool fm.d) ∧ w.cell? ⟨g, j * 6 + 1, none⟩ = some (.string fm.nm) ∧ w.cell? ⟨g, j * 6 + 2, none⟩ = some (.int .i64 (fm.i : Int)) ∧ w.cell? ⟨g, j * 6 + 3, none⟩ = some (.int .i64 (fm.j : Int)) ∧ w.cell? ⟨g, j * 6 + 4, none⟩ = some bv ∧ w.cell? ⟨g, j * 6 + 5, none⟩ = some iv) ∧ (∃ ab cb, bv = .slice ab fm.b.length cb) ∧ (∀ w1, Only (fun _ => False) w w1 → Calls Tryz.prog 27 #[.agg #[.string fm.nm, .int .i64 (fm.i : Int), .int .i64 (fm.j : Int), bv]] w1 fun e w' => ∃ ao' cap', e = .returned (.agg #[.string fm.nm, .int .i64 (fm.i : Int), .int .i64 (fm.j : Int), .slice ao' fm.b.length cap']) ∧ Hid (VrAt w' w1.heap.size d (.slice ao' fm.b.length cap') fm.b ∧ Only (fun _ => False) w1 w')) ∧ ((fm.d = true ∧ iv = .nilIface ∧ fm.it = noT) ∨ (fm.d = false ∧ (∃ T y, iv = .iface T y) ∧ ∀ w1, Only (fun _ => False) w w1 → Calls Tryz.prog 16 #[iv] w1 fun e w' => ∃ lv, e = .returned (.agg #[.int .i64 (fm.it.k : Int), .int .i64 (vn fm.it), .string (vs fm.it), lv]) ∧ Hid (NvAt w' w1.heap.size d fm.it lv ∧ Only (fun _ => False) w1 w')))) := by
    intro j fm hx
    obtain ⟨g, bv, iv, ha, hc, hf⟩ := hel j fm hx
    obtain ⟨w1_, w2, w3⟩ := hw fm (List.mem_of_getElem? hx)
    refine ⟨g, bv, iv, ha, hc, ?_⟩
    rcases hf with ⟨h1, h2, h3, h4⟩ | ⟨h1, h2, h3, h4, h5, h6, h7⟩
    · obtain ⟨ab, cb, hbv, hx3⟩ := id h3
      refine ⟨⟨ab, cb, hbv⟩, fun w1 o1 => ?_, .inl ⟨h1, h4, h2⟩⟩
      subst hbv
      exact deftree_any d _ _ _ fm.b ab cb w1 S (h3.step (fun _ g => g) (fun a u _ hc => o1.cell hc (fun g => g)) (Nat.le_refl _)) w1_ w2
    · refine ⟨⟨none, 0, by rw [h6, h5]; rfl⟩, fun w1 o1 => ?_, .inr ⟨h1, h7.form, fun w1 o1 => (trees_any (d + 1) d (by omega)).2 iv fm.it w1 S (h7.step (fun _ g => g) (fun a u _ hc => o1.cell hc (fun g => g)) (Nat.le_refl _)) (w3 h1)⟩⟩
      have h8 : bv = .slice none fm.b.length 0 := by rw [h6, h5]; rfl
      rw [h8]
      exact deftree_any d _ _ _ fm.b none 0 w1 S ⟨none, 0, rfl, by rw [h5]; exact Nat.zero_le _, fun j x hj => by rw [h5] at hj; simp at hj⟩ (by rw [h5]; exact Nat.zero_le _) (by rw [h5]; intro t ht; simp at ht)
  have HLB : Hid (l.length ≤ 4096) := hl
  clear hel hl hw
  obtain ⟨N, hN⟩ : ∃ N, N = l.length := ⟨_, rfl⟩
  have HNN : Hid (N = l.length) := hN
  rw [← hN]
  clear hN
  go_enter Tryz.func12, Tryz.ntmps12
  go_wp2
  go_loopw [3, 4] (fun r3 r4 wr => ∃ (i : Nat) (ao : Option Addr) (cap : Nat), r3 = .slice ao i cap ∧ r4 = .int .i64 (i : Int) ∧ i ≤ N ∧ Hid (VfAt wr w.heap.size (d + 1) (.slice ao i cap) (l.take i) ∧ Only (fun _ => False) w wr)) (fun _ r4 _ => N - uOf r4)
  case atStart => exact ⟨0, none, 0, rfl, rfl, Nat.zero_le _, vf_nil _ _ _, Only.refl _ _⟩
  case round =>
    obtain ⟨i, ao, cap, rfl, rfl, hi, HI⟩ := hrel
    obtain ⟨w1, rfl⟩ : ∃ w1, w1 = wr := ⟨_, rfl⟩
    have hNl : N = l.length := HNN.out
    have hN4 : l.length ≤ 4096 := HLB.out
    by_cases hiN : i < N
    · obtain ⟨fm, hx⟩ : ∃ x, l[i]? = some x := ⟨l[i]'(by omega), List.getElem?_eq_getElem (by omega)⟩
      obtain ⟨g, bv, iv, rfl, ⟨h0, h1, h2, h3, h4, h5⟩, ⟨ab, cb, hbv⟩, hdef, hit⟩ := HE.out i fm hx
      have o1 := HI.out.2
      have c0 := o1.cell h0 (fun g => g)
      have c1 := o1.cell h1 (fun g => g)
      have c2 := o1.cell h2 (fun g => g)
      have c3 := o1.cell h3 (fun g => g)
      have c4 := o1.cell h4 (fun g => g)
      have c5 := o1.cell h5 (fun g => g)
      have i1 : (i : Int) < (N : Int) := by omega
      have i0 : (0 : Int) ≤ (i : Int) := by omega
      have HS : Hid (∀ w', Only (fun _ => False) w1 w' → w'.cell? ⟨g, i * 6, none⟩ = some (.bool fm.d) ∧ w'.cell? ⟨g, i * 6 + 1, none⟩ = some (.string fm.nm) ∧ w'.cell? ⟨g, i * 6 + 2, none⟩ = some (.int .i64 (fm.i : Int)) ∧ w'.cell? ⟨g, i * 6 + 3, none⟩ = some (.int .i64 (fm.j : Int)) ∧ w'.cell? ⟨g, i * 6 + 4, none⟩ = some bv) := fun w' o => ⟨o.cell c0 (fun g => g), o.cell c1 (fun g => g), o.cell c2 (fun g => g), o.cell c3 (fun g => g), o.cell c4 (fun g => g)⟩
      have HD : Hid (∀ w1, Only (fun _ => False) w w1 → Calls Tryz.prog 27 #[.agg #[.string fm.nm, .int .i64 (fm.i : Int), .int .i64 (fm.j : Int), bv]] w1 fun e w' => ∃ ao' cap', e = .returned (.agg #[.string fm.nm, .int .i64 (fm.i : Int), .int .i64 (fm.j : Int), .slice ao' fm.b.length cap']) ∧ Hid (VrAt w' w1.heap.size d (.slice ao' fm.b.length cap') fm.b ∧ Only (fun _ => False) w1 w')) := hdef
      have HIT : Hid ((fm.d = true ∧ iv = .nilIface ∧ fm.it = noT) ∨ (fm.d = false ∧ (∃ T y, iv = .iface T y) ∧ ∀ w1, Only (fun _ => False) w w1 → Calls Tryz.prog 16 #[iv] w1 fun e w' => ∃ lv, e = .returned (.agg #[.int .i64 (fm.it.k : Int), .int .i64 (vn fm.it), .string (vs fm.it), lv]) ∧ Hid (NvAt w' w1.heap.size d fm.it lv ∧ Only (fun _ => False) w1 w'))) := hit
      have O1 : Hid (Only (fun _ => False) w w1) := o1
      have OR : Hid (Only (fun _ => False) w1 w1) := Only.refl _ _
      have hgl : g < w1.heap.size := World.block_lt_of_cell? w1 _ c0
      clear HE h0 h1 h2 h3 h4 h5 o1 hdef hit
      subst hbv
      obtain ⟨bL, hbL⟩ : ∃ bL, bL = fm.b.length := ⟨_, rfl⟩
      have HBL : Hid (bL = fm.b.length) := hbL
      rw [← hbL] at HS HD c4
      clear hbL
      obtain ⟨fd, hfd⟩ : ∃ fd, fd = fm.d := ⟨_, rfl⟩
      obtain ⟨fn, hfn⟩ : ∃ fn, fn = fm.nm := ⟨_, rfl⟩
      obtain ⟨fi, hfi⟩ : ∃ fi : Int, fi = fm.i := ⟨_, rfl⟩
      obtain ⟨fj, hfj⟩ : ∃ fj : Int, fj = fm.j := ⟨_, rfl⟩
      have HFF : Hid (fd = fm.d ∧ fn = fm.nm ∧ fi = fm.i ∧ fj = fm.j) := ⟨hfd, hfn, hfi, hfj⟩
      rw [← hfd, ← hfn, ← hfi, ← hfj] at HS
      rw [← hfn, ← hfi, ← hfj] at HD
      rw [← hfd] at c0
      rw [← hfn] at c1
      rw [← hfi] at c2
      rw [← hfj] at c3
      clear hfd hfn hfi hfj
      have HC5 : Hid (w1.cell? ⟨g, i * 6 + 5, none⟩ = some iv) := c5
      have HXX : Hid (l[i]? = some fm ∧ i < N ∧ N = l.length ∧ l.length ≤ 4096) := ⟨hx, hiN, hNl, hN4⟩
      clear c5 hx hNl hN4 hi
      go_wp2_with fail
      clear hiN
      refine wp_region_post (R := fun a' W' => ∃ P ao' cap', a' = { tmps := #[.slice (some ⟨g, 0, none⟩) N cv, undef, .slice none 0 0, .slice ao i cap, .int .i64 (i : Int), .pointer (some ⟨P, 0, none⟩), .int .i64 (i : Int), .slice (some ⟨g, 0, none⟩) N cv, .int .i64 (N : Int), .bool true, u10, u11, .slice (some ⟨g, 0, none⟩) N cv, .int .i64 (i : Int), .pointer (some ⟨g, i * 6, none⟩), .pointer (some ⟨g, i * 6, none⟩), .bool fd, .slice (some ⟨g, 0, none⟩) N cv, .int .i64 (i : Int), .pointer (some ⟨g, i * 6, none⟩), .pointer (some ⟨g, i * 6 + 1, none⟩), .agg #[.string fn, .int .i64 fi, .int .i64 fj, .slice ab bL cb], .agg #[.string fn, .int .i64 fi, .int .i64 fj, .slice ao' bL cap'], .agg #[.bool fd, .string fn, .int .i64 fi, .int .i64 fj, .slice ao' bL cap', .int .i64 0, .int .i64 0, .string ⟨#[]⟩, .slice none 0 0], u24, u25, u26, u27, u28, u29, u30, u31, u32, u33, u34, u35, u36, u37, u38, u39, u40, undef], defers := [] } ∧ Hid (FtK w1 d fm.b fd fn fi fj bL P ao' cap' W')) ?_ ?_
      · refine wp_region_any (by kernel_rfl) ?_
        change wpAny _ _ _ _ _ _ _ (World.drew _)
        refine wpAny_take (i := 0) (v := .slice (some ⟨g, 0, none⟩) N cv) rfl (by kernel_rfl) (by kernel_rfl) (by kernel_rfl) (fun c a w h => absurd h.1 (by simp)) (Or.inl ⟨by rfl, fun W => by first | (go_simp; done) | (go_simp; with_reducible rfl)⟩) ?_
        refine wpAny_take (i := 1) (v := .int .i64 (i : Int)) rfl (by kernel_rfl) (by kernel_rfl) (by kernel_rfl) (fun c a w h => absurd h.1 (by simp)) (Or.inl ⟨by rfl, fun W => by first | (go_simp; done) | (go_simp; with_reducible rfl)⟩) ?_
        refine wpAny_take (i := 5) (v := .slice (some ⟨g, 0, none⟩) N cv) rfl (by kernel_rfl) (by kernel_rfl) (by kernel_rfl) (fun c a w h => absurd h.1 (by simp)) (Or.inl ⟨by rfl, fun W => by first | (go_simp; done) | (go_simp; with_reducible rfl)⟩) ?_
        refine wpAny_take (i := 6) (v := .int .i64 (i : Int)) rfl (by kernel_rfl) (by kernel_rfl) (by kernel_rfl) (fun c a w h => absurd h.1 (by simp)) (Or.inl ⟨by rfl, fun W => by first | (go_simp; done) | (go_simp; with_reducible rfl)⟩) ?_
        refine wpAny_take (i := 2) (v := .pointer (some ⟨g, i * 6, none⟩)) rfl (by kernel_rfl) (by kernel_rfl) (by kernel_rfl) (fun c a w h => absurd h.1 (by simp)) (Or.inl ⟨by rfl, fun W => by first | (go_simp; done) | (go_simp; with_reducible rfl)⟩) ?_
        refine wpAny_take (i := 7) (v := .pointer (some ⟨g, i * 6, none⟩)) rfl (by kernel_rfl) (by kernel_rfl) (by kernel_rfl) (fun c a w h => absurd h.1 (by simp)) (Or.inl ⟨by rfl, fun W => by first | (go_simp; done) | (go_simp; with_reducible rfl)⟩) ?_
        refine wpAny_take (i := 3) (v := .pointer (some ⟨g, i * 6, none⟩)) rfl (by kernel_rfl) (by kernel_rfl) (by kernel_rfl) (fun c a w h => absurd h.1 (by simp)) (Or.inl ⟨by rfl, fun W => by first | (go_simp; done) | (go_simp; with_reducible rfl)⟩) ?_
        refine wpAny_take (i := 8) (v := .pointer (some ⟨g, i * 6 + 1, none⟩)) rfl (by kernel_rfl) (by kernel_rfl) (by kernel_rfl) (fun c a w h => absurd h.1 (by simp)) (Or.inl ⟨by rfl, fun W => by first | (go_simp; done) | (go_simp; with_reducible rfl)⟩) ?_
        have d0 := fun x => (HS.out (w1.drew.alloc x) ((Only.refl _ w1).drew.alloc x)).1
        have d1 := fun x => (HS.out (w1.drew.alloc x) ((Only.refl _ w1).drew.alloc x)).2.1
        have d2 := fun x => (HS.out (w1.drew.alloc x) ((Only.refl _ w1).drew.alloc x)).2.2.1
        have d3 := fun x => (HS.out (w1.drew.alloc x) ((Only.refl _ w1).drew.alloc x)).2.2.2.1
        have d4 := fun x => (HS.out (w1.drew.alloc x) ((Only.refl _ w1).drew.alloc x)).2.2.2.2
        refine wpAny_ready (rs := [4, 9, 12]) (by kernel_rfl) (by simp) ?_
        refine AllReady.cons rfl (fun K hK => ?_) (AllReady.cons rfl (fun K hK => ?_) (AllReady.cons rfl (fun K hK => ?_) AllReady.nil))
        · skip
          go_simp
          refine hK _ _ ?_
          clear hK K
          refine wpAny_ready (rs := [9, 12]) (by kernel_rfl) (by simp) ?_
          refine AllReady.cons rfl (fun K hK => ?_) (AllReady.cons rfl (fun K hK => ?_) AllReady.nil)
          · skip
            go_simp
            refine hK _ _ ?_
            clear hK K
            refine wpAny_ready (rs := [10, 12]) (by kernel_rfl) (by simp) ?_
            refine AllReady.cons rfl (fun K hK => ?_) (AllReady.cons rfl (fun K hK => ?_) AllReady.nil)
            · skip
              go_simp
              go_wp2_with (go_at_call 27; refine (show Calls Tryz.prog 27 _ _ _ from HD.out _ (O1.out.drew)).mono ?_; rintro ex w2 ⟨ao', cap', rfl, g2⟩)
              have O2 : Only (fun _ => False) w1 w2 := (Only.refl _ w1).drew.trans g2.out.2 (fun _ _ g => g)
              refine wpAny_take (i := 11) (v := .agg #[.bool fd, .string fn, .int .i64 fi, .int .i64 fj, .slice ao' bL cap', .int .i64 0, .int .i64 0, .string ⟨#[]⟩, .slice none 0 0]) rfl (by kernel_rfl) (by kernel_rfl) (by kernel_rfl) (fun c a w h => absurd h.1 (by simp)) (Or.inl ⟨by rfl, fun W => by first | (go_simp; done) | (go_simp; with_reducible rfl)⟩) ?_
              refine wpAny_ready (rs := [12]) (by kernel_rfl) (by simp) ?_
              refine AllReady.cons rfl (fun K hK => ?_) AllReady.nil
              · skip
                go_simp
                refine hK _ _ ?_
                clear hK K
                refine wpAny_ready (rs := [13]) (by kernel_rfl) (by simp) ?_
                refine AllReady.cons rfl (fun K hK => ?_) AllReady.nil
                go_simp
                refine hK _ _ ?_
                clear hK K
                refine wpAny_done (by kernel_rfl) ?_ _
                exact ⟨rfl, w2.heap.size, ao', cap', rfl, ftA g2.out.1 g2.out.2⟩
            · skip
              go_simp
              refine hK _ _ ?_
              clear hK K
              refine wpAny_ready (rs := [10]) (by kernel_rfl) (by simp) ?_
              refine AllReady.cons rfl (fun K hK => ?_) AllReady.nil
              · skip
                go_simp
                go_wp2_with (go_at_call 27; refine (show Calls Tryz.prog 27 _ _ _ from HD.out _ (O1.out.drew.alloc _)).mono ?_; rintro ex w2 ⟨ao', cap', rfl, g2⟩)
                have O2 : Only (fun _ => False) w1 w2 := ((Only.refl _ w1).drew.alloc _).trans g2.out.2 (fun _ _ g => g)
                have bF : w2.heap[w1.heap.size]? = some (.cells #[.bool false, .string ⟨#[]⟩, .int .i64 0, .int .i64 0, .slice none 0 0, .int .i64 0, .int .i64 0, .string ⟨#[]⟩, .slice none 0 0] 75) := (g2.out.2.block w1.heap.size (by simp) (fun h => h)).trans (alloc_at _ _ _ rfl)
                have k0 := blk_cells bF 0
                have y0 := blk_froz bF 0
                have k1 := blk_cells bF 1
                have y1 := blk_froz bF 1
                have k2 := blk_cells bF 2
                have y2 := blk_froz bF 2
                have k3 := blk_cells bF 3
                have y3 := blk_froz bF 3
                have k4 := blk_cells bF 4
                have y4 := blk_froz bF 4
                have k5 := blk_cells bF 5
                have y5 := blk_froz bF 5
                have k6 := blk_cells bF 6
                have y6 := blk_froz bF 6
                have k7 := blk_cells bF 7
                have y7 := blk_froz bF 7
                have k8 := blk_cells bF 8
                have y8 := blk_froz bF 8
                simp only [List.getElem?_toArray, List.getElem?_cons_zero, List.getElem?_cons_succ] at k0 k1 k2 k3 k4 k5 k6 k7 k8
                refine wpAny_take (i := 11) (v := .agg #[.bool fd, .string fn, .int .i64 fi, .int .i64 fj, .slice ao' bL cap', .int .i64 0, .int .i64 0, .string ⟨#[]⟩, .slice none 0 0]) rfl (by kernel_rfl) (by kernel_rfl) (by kernel_rfl) (fun c a w h => absurd h.1 (by simp)) (Or.inl ⟨by rfl, fun W => by first | (go_simp; done) | (go_simp; with_reducible rfl)⟩) ?_
                refine wpAny_ready (rs := [13]) (by kernel_rfl) (by simp) ?_
                refine AllReady.cons rfl (fun K hK => ?_) AllReady.nil
                go_simp
                refine hK _ _ ?_
                clear hK K
                refine wpAny_done (by kernel_rfl) ?_ _
                exact ⟨rfl, w1.heap.size, ao', cap', rfl, ftB (g2.out.1.lower (by simp)) g2.out.2⟩
          · skip
            go_simp
            refine hK _ _ ?_
            clear hK K
            refine wpAny_ready (rs := [9]) (by kernel_rfl) (by simp) ?_
            refine AllReady.cons rfl (fun K hK => ?_) AllReady.nil
            · skip
              go_simp
              refine hK _ _ ?_
              clear hK K
              refine wpAny_ready (rs := [10]) (by kernel_rfl) (by simp) ?_
              refine AllReady.cons rfl (fun K hK => ?_) AllReady.nil
              · skip
                go_simp
                go_wp2_with (go_at_call 27; refine (show Calls Tryz.prog 27 _ _ _ from HD.out _ (O1.out.drew.alloc _)).mono ?_; rintro ex w2 ⟨ao', cap', rfl, g2⟩)
                have O2 : Only (fun _ => False) w1 w2 := ((Only.refl _ w1).drew.alloc _).trans g2.out.2 (fun _ _ g => g)
                have bF : w2.heap[w1.heap.size]? = some (.cells #[.bool false, .string ⟨#[]⟩, .int .i64 0, .int .i64 0, .slice none 0 0, .int .i64 0, .int .i64 0, .string ⟨#[]⟩, .slice none 0 0] 75) := (g2.out.2.block w1.heap.size (by simp) (fun h => h)).trans (alloc_at _ _ _ rfl)
                have k0 := blk_cells bF 0
                have y0 := blk_froz bF 0
                have k1 := blk_cells bF 1
                have y1 := blk_froz bF 1
                have k2 := blk_cells bF 2
                have y2 := blk_froz bF 2
                have k3 := blk_cells bF 3
                have y3 := blk_froz bF 3
                have k4 := blk_cells bF 4
                have y4 := blk_froz bF 4
                have k5 := blk_cells bF 5
                have y5 := blk_froz bF 5
                have k6 := blk_cells bF 6
                have y6 := blk_froz bF 6
                have k7 := blk_cells bF 7
                have y7 := blk_froz bF 7
                have k8 := blk_cells bF 8
                have y8 := blk_froz bF 8
                simp only [List.getElem?_toArray, List.getElem?_cons_zero, List.getElem?_cons_succ] at k0 k1 k2 k3 k4 k5 k6 k7 k8
                refine wpAny_take (i := 11) (v := .agg #[.bool fd, .string fn, .int .i64 fi, .int .i64 fj, .slice ao' bL cap', .int .i64 0, .int .i64 0, .string ⟨#[]⟩, .slice none 0 0]) rfl (by kernel_rfl) (by kernel_rfl) (by kernel_rfl) (fun c a w h => absurd h.1 (by simp)) (Or.inl ⟨by rfl, fun W => by first | (go_simp; done) | (go_simp; with_reducible rfl)⟩) ?_
                refine wpAny_ready (rs := [13]) (by kernel_rfl) (by simp) ?_
                refine AllReady.cons rfl (fun K hK => ?_) AllReady.nil
                go_simp
                refine hK _ _ ?_
                clear hK K
                refine wpAny_done (by kernel_rfl) ?_ _
                exact ⟨rfl, w1.heap.size, ao', cap', rfl, ftB (g2.out.1.lower (by simp)) g2.out.2⟩
        · skip
          go_simp
          refine hK _ _ ?_
          clear hK K
          refine wpAny_ready (rs := [4, 10, 12]) (by kernel_rfl) (by simp) ?_
          refine AllReady.cons rfl (fun K hK => ?_) (AllReady.cons rfl (fun K hK => ?_) (AllReady.cons rfl (fun K hK => ?_) AllReady.nil))
          · skip
            go_simp
            refine hK _ _ ?_
            clear hK K
            refine wpAny_ready (rs := [10, 12]) (by kernel_rfl) (by simp) ?_
            refine AllReady.cons rfl (fun K hK => ?_) (AllReady.cons rfl (fun K hK => ?_) AllReady.nil)
            · skip
              go_simp
              go_wp2_with (go_at_call 27; refine (show Calls Tryz.prog 27 _ _ _ from HD.out _ (O1.out.drew)).mono ?_; rintro ex w2 ⟨ao', cap', rfl, g2⟩)
              have O2 : Only (fun _ => False) w1 w2 := (Only.refl _ w1).drew.trans g2.out.2 (fun _ _ g => g)
              refine wpAny_take (i := 11) (v := .agg #[.bool fd, .string fn, .int .i64 fi, .int .i64 fj, .slice ao' bL cap', .int .i64 0, .int .i64 0, .string ⟨#[]⟩, .slice none 0 0]) rfl (by kernel_rfl) (by kernel_rfl) (by kernel_rfl) (fun c a w h => absurd h.1 (by simp)) (Or.inl ⟨by rfl, fun W => by first | (go_simp; done) | (go_simp; with_reducible rfl)⟩) ?_
              refine wpAny_ready (rs := [12]) (by kernel_rfl) (by simp) ?_
              refine AllReady.cons rfl (fun K hK => ?_) AllReady.nil
              · skip
                go_simp
                refine hK _ _ ?_
                clear hK K
                refine wpAny_ready (rs := [13]) (by kernel_rfl) (by simp) ?_
                refine AllReady.cons rfl (fun K hK => ?_) AllReady.nil
                go_simp
                refine hK _ _ ?_
                clear hK K
                refine wpAny_done (by kernel_rfl) ?_ _
                exact ⟨rfl, w2.heap.size, ao', cap', rfl, ftA g2.out.1 g2.out.2⟩
            · skip
              go_simp
              refine hK _ _ ?_
              clear hK K
              refine wpAny_ready (rs := [10]) (by kernel_rfl) (by simp) ?_
              refine AllReady.cons rfl (fun K hK => ?_) AllReady.nil
              · skip
                go_simp
                go_wp2_with (go_at_call 27; refine (show Calls Tryz.prog 27 _ _ _ from HD.out _ (O1.out.drew.alloc _)).mono ?_; rintro ex w2 ⟨ao', cap', rfl, g2⟩)
                have O2 : Only (fun _ => False) w1 w2 := ((Only.refl _ w1).drew.alloc _).trans g2.out.2 (fun _ _ g => g)
                have bF : w2.heap[w1.heap.size]? = some (.cells #[.bool false, .string ⟨#[]⟩, .int .i64 0, .int .i64 0, .slice none 0 0, .int .i64 0, .int .i64 0, .string ⟨#[]⟩, .slice none 0 0] 75) := (g2.out.2.block w1.heap.size (by simp) (fun h => h)).trans (alloc_at _ _ _ rfl)
                have k0 := blk_cells bF 0
                have y0 := blk_froz bF 0
                have k1 := blk_cells bF 1
                have y1 := blk_froz bF 1
                have k2 := blk_cells bF 2
                have y2 := blk_froz bF 2
                have k3 := blk_cells bF 3
                have y3 := blk_froz bF 3
                have k4 := blk_cells bF 4
                have y4 := blk_froz bF 4
                have k5 := blk_cells bF 5
                have y5 := blk_froz bF 5
                have k6 := blk_cells bF 6
                have y6 := blk_froz bF 6
                have k7 := blk_cells bF 7
                have y7 := blk_froz bF 7
                have k8 := blk_cells bF 8
                have y8 := blk_froz bF 8
                simp only [List.getElem?_toArray, List.getElem?_cons_zero, List.getElem?_cons_succ] at k0 k1 k2 k3 k4 k5 k6 k7 k8
                refine wpAny_take (i := 11) (v := .agg #[.bool fd, .string fn, .int .i64 fi, .int .i64 fj, .slice ao' bL cap', .int .i64 0, .int .i64 0, .string ⟨#[]⟩, .slice none 0 0]) rfl (by kernel_rfl) (by kernel_rfl) (by kernel_rfl) (fun c a w h => absurd h.1 (by simp)) (Or.inl ⟨by rfl, fun W => by first | (go_simp; done) | (go_simp; with_reducible rfl)⟩) ?_
                refine wpAny_ready (rs := [13]) (by kernel_rfl) (by simp) ?_
                refine AllReady.cons rfl (fun K hK => ?_) AllReady.nil
                go_simp
                refine hK _ _ ?_
                clear hK K
                refine wpAny_done (by kernel_rfl) ?_ _
                exact ⟨rfl, w1.heap.size, ao', cap', rfl, ftB (g2.out.1.lower (by simp)) g2.out.2⟩
          · skip
            go_simp
            go_wp2_with (go_at_call 27; refine (show Calls Tryz.prog 27 _ _ _ from HD.out _ (O1.out.drew)).mono ?_; rintro ex w2 ⟨ao', cap', rfl, g2⟩)
            have O2 : Only (fun _ => False) w1 w2 := (Only.refl _ w1).drew.trans g2.out.2 (fun _ _ g => g)
            have e0 := (HS.out w2 O2).1
            have e0' := fun x => (HS.out (w2.alloc x) (O2.alloc x)).1
            refine wpAny_ready (rs := [4, 12]) (by kernel_rfl) (by simp) ?_
            refine AllReady.cons rfl (fun K hK => ?_) (AllReady.cons rfl (fun K hK => ?_) AllReady.nil)
            · skip
              go_simp
              refine hK _ _ ?_
              clear hK K
              refine wpAny_take (i := 11) (v := .agg #[.bool fd, .string fn, .int .i64 fi, .int .i64 fj, .slice ao' bL cap', .int .i64 0, .int .i64 0, .string ⟨#[]⟩, .slice none 0 0]) rfl (by kernel_rfl) (by kernel_rfl) (by kernel_rfl) (fun c a w h => absurd h.1 (by simp)) (Or.inl ⟨by rfl, fun W => by first | (go_simp; done) | (go_simp; with_reducible rfl)⟩) ?_
              refine wpAny_ready (rs := [12]) (by kernel_rfl) (by simp) ?_
              refine AllReady.cons rfl (fun K hK => ?_) AllReady.nil
              · skip
                go_simp
                refine hK _ _ ?_
                clear hK K
                refine wpAny_ready (rs := [13]) (by kernel_rfl) (by simp) ?_
                refine AllReady.cons rfl (fun K hK => ?_) AllReady.nil
                go_simp
                refine hK _ _ ?_
                clear hK K
                refine wpAny_done (by kernel_rfl) ?_ _
                exact ⟨rfl, w2.heap.size, ao', cap', rfl, ftA g2.out.1 g2.out.2⟩
            · skip
              go_simp
              refine hK _ _ ?_
              clear hK K
              refine wpAny_ready (rs := [4]) (by kernel_rfl) (by simp) ?_
              refine AllReady.cons rfl (fun K hK => ?_) AllReady.nil
              · skip
                go_simp
                refine hK _ _ ?_
                clear hK K
                refine wpAny_take (i := 11) (v := .agg #[.bool fd, .string fn, .int .i64 fi, .int .i64 fj, .slice ao' bL cap', .int .i64 0, .int .i64 0, .string ⟨#[]⟩, .slice none 0 0]) rfl (by kernel_rfl) (by kernel_rfl) (by kernel_rfl) (fun c a w h => absurd h.1 (by simp)) (Or.inl ⟨by rfl, fun W => by first | (go_simp; done) | (go_simp; with_reducible rfl)⟩) ?_
                refine wpAny_ready (rs := [13]) (by kernel_rfl) (by simp) ?_
                refine AllReady.cons rfl (fun K hK => ?_) AllReady.nil
                go_simp
                refine hK _ _ ?_
                clear hK K
                refine wpAny_done (by kernel_rfl) ?_ _
                exact ⟨rfl, w2.heap.size, ao', cap', rfl, ftA g2.out.1 g2.out.2⟩
          · skip
            go_simp
            refine hK _ _ ?_
            clear hK K
            refine wpAny_ready (rs := [4, 10]) (by kernel_rfl) (by simp) ?_
            refine AllReady.cons rfl (fun K hK => ?_) (AllReady.cons rfl (fun K hK => ?_) AllReady.nil)
            · skip
              go_simp
              refine hK _ _ ?_
              clear hK K
              refine wpAny_ready (rs := [10]) (by kernel_rfl) (by simp) ?_
              refine AllReady.cons rfl (fun K hK => ?_) AllReady.nil
              · skip
                go_simp
                go_wp2_with (go_at_call 27; refine (show Calls Tryz.prog 27 _ _ _ from HD.out _ (O1.out.drew.alloc _)).mono ?_; rintro ex w2 ⟨ao', cap', rfl, g2⟩)
                have O2 : Only (fun _ => False) w1 w2 := ((Only.refl _ w1).drew.alloc _).trans g2.out.2 (fun _ _ g => g)
                have bF : w2.heap[w1.heap.size]? = some (.cells #[.bool false, .string ⟨#[]⟩, .int .i64 0, .int .i64 0, .slice none 0 0, .int .i64 0, .int .i64 0, .string ⟨#[]⟩, .slice none 0 0] 75) := (g2.out.2.block w1.heap.size (by simp) (fun h => h)).trans (alloc_at _ _ _ rfl)
                have k0 := blk_cells bF 0
                have y0 := blk_froz bF 0
                have k1 := blk_cells bF 1
                have y1 := blk_froz bF 1
                have k2 := blk_cells bF 2
                have y2 := blk_froz bF 2
                have k3 := blk_cells bF 3
                have y3 := blk_froz bF 3
                have k4 := blk_cells bF 4
                have y4 := blk_froz bF 4
                have k5 := blk_cells bF 5
                have y5 := blk_froz bF 5
                have k6 := blk_cells bF 6
                have y6 := blk_froz bF 6
                have k7 := blk_cells bF 7
                have y7 := blk_froz bF 7
                have k8 := blk_cells bF 8
                have y8 := blk_froz bF 8
                simp only [List.getElem?_toArray, List.getElem?_cons_zero, List.getElem?_cons_succ] at k0 k1 k2 k3 k4 k5 k6 k7 k8
                refine wpAny_take (i := 11) (v := .agg #[.bool fd, .string fn, .int .i64 fi, .int .i64 fj, .slice ao' bL cap', .int .i64 0, .int .i64 0, .string ⟨#[]⟩, .slice none 0 0]) rfl (by kernel_rfl) (by kernel_rfl) (by kernel_rfl) (fun c a w h => absurd h.1 (by simp)) (Or.inl ⟨by rfl, fun W => by first | (go_simp; done) | (go_simp; with_reducible rfl)⟩) ?_
                refine wpAny_ready (rs := [13]) (by kernel_rfl) (by simp) ?_
                refine AllReady.cons rfl (fun K hK => ?_) AllReady.nil
                go_simp
                refine hK _ _ ?_
                clear hK K
                refine wpAny_done (by kernel_rfl) ?_ _
                exact ⟨rfl, w1.heap.size, ao', cap', rfl, ftB (g2.out.1.lower (by simp)) g2.out.2⟩
            · skip
              go_simp
              go_wp2_with (go_at_call 27; refine (show Calls Tryz.prog 27 _ _ _ from HD.out _ (O1.out.drew.alloc _)).mono ?_; rintro ex w2 ⟨ao', cap', rfl, g2⟩)
              have O2 : Only (fun _ => False) w1 w2 := ((Only.refl _ w1).drew.alloc _).trans g2.out.2 (fun _ _ g => g)
              have bF : w2.heap[w1.heap.size]? = some (.cells #[.bool false, .string ⟨#[]⟩, .int .i64 0, .int .i64 0, .slice none 0 0, .int .i64 0, .int .i64 0, .string ⟨#[]⟩, .slice none 0 0] 75) := (g2.out.2.block w1.heap.size (by simp) (fun h => h)).trans (alloc_at _ _ _ rfl)
              have k0 := blk_cells bF 0
              have y0 := blk_froz bF 0
              have k1 := blk_cells bF 1
              have y1 := blk_froz bF 1
              have k2 := blk_cells bF 2
              have y2 := blk_froz bF 2
              have k3 := blk_cells bF 3
              have y3 := blk_froz bF 3
              have k4 := blk_cells bF 4
              have y4 := blk_froz bF 4
              have k5 := blk_cells bF 5
              have y5 := blk_froz bF 5
              have k6 := blk_cells bF 6
              have y6 := blk_froz bF 6
              have k7 := blk_cells bF 7
              have y7 := blk_froz bF 7
              have k8 := blk_cells bF 8
              have y8 := blk_froz bF 8
              simp only [List.getElem?_toArray, List.getElem?_cons_zero, List.getElem?_cons_succ] at k0 k1 k2 k3 k4 k5 k6 k7 k8
              have e0 := (HS.out w2 O2).1
              refine wpAny_ready (rs := [4]) (by kernel_rfl) (by simp) ?_
              refine AllReady.cons rfl (fun K hK => ?_) AllReady.nil
              · skip
                go_simp
                refine hK _ _ ?_
                clear hK K
                refine wpAny_take (i := 11) (v := .agg #[.bool fd, .string fn, .int .i64 fi, .int .i64 fj, .slice ao' bL cap', .int .i64 0, .int .i64 0, .string ⟨#[]⟩, .slice none 0 0]) rfl (by kernel_rfl) (by kernel_rfl) (by kernel_rfl) (fun c a w h => absurd h.1 (by simp)) (Or.inl ⟨by rfl, fun W => by first | (go_simp; done) | (go_simp; with_reducible rfl)⟩) ?_
                refine wpAny_ready (rs := [13]) (by kernel_rfl) (by simp) ?_
                refine AllReady.cons rfl (fun K hK => ?_) AllReady.nil
                go_simp
                refine hK _ _ ?_
                clear hK K
                refine wpAny_done (by kernel_rfl) ?_ _
                exact ⟨rfl, w1.heap.size, ao', cap', rfl, ftB (g2.out.1.lower (by simp)) g2.out.2⟩
        · skip
          go_simp
          refine hK _ _ ?_
          clear hK K
          refine wpAny_ready (rs := [4, 9]) (by kernel_rfl) (by simp) ?_
          refine AllReady.cons rfl (fun K hK => ?_) (AllReady.cons rfl (fun K hK => ?_) AllReady.nil)
          · skip
            go_simp
            refine hK _ _ ?_
            clear hK K
            refine wpAny_ready (rs := [9]) (by kernel_rfl) (by simp) ?_
            refine AllReady.cons rfl (fun K hK => ?_) AllReady.nil
            · skip
              go_simp
              refine hK _ _ ?_
              clear hK K
              refine wpAny_ready (rs := [10]) (by kernel_rfl) (by simp) ?_
              refine AllReady.cons rfl (fun K hK => ?_) AllReady.nil
              · skip
                go_simp
                go_wp2_with (go_at_call 27; refine (show Calls Tryz.prog 27 _ _ _ from HD.out _ (O1.out.drew.alloc _)).mono ?_; rintro ex w2 ⟨ao', cap', rfl, g2⟩)
                have O2 : Only (fun _ => False) w1 w2 := ((Only.refl _ w1).drew.alloc _).trans g2.out.2 (fun _ _ g => g)
                have bF : w2.heap[w1.heap.size]? = some (.cells #[.bool false, .string ⟨#[]⟩, .int .i64 0, .int .i64 0, .slice none 0 0, .int .i64 0, .int .i64 0, .string ⟨#[]⟩, .slice none 0 0] 75) := (g2.out.2.block w1.heap.size (by simp) (fun h => h)).trans (alloc_at _ _ _ rfl)
                have k0 := blk_cells bF 0
                have y0 := blk_froz bF 0
                have k1 := blk_cells bF 1
                have y1 := blk_froz bF 1
                have k2 := blk_cells bF 2
                have y2 := blk_froz bF 2
                have k3 := blk_cells bF 3
                have y3 := blk_froz bF 3
                have k4 := blk_cells bF 4
                have y4 := blk_froz bF 4
                have k5 := blk_cells bF 5
                have y5 := blk_froz bF 5
                have k6 := blk_cells bF 6
                have y6 := blk_froz bF 6
                have k7 := blk_cells bF 7
                have y7 := blk_froz bF 7
                have k8 := blk_cells bF 8
                have y8 := blk_froz bF 8
                simp only [List.getElem?_toArray, List.getElem?_cons_zero, List.getElem?_cons_succ] at k0 k1 k2 k3 k4 k5 k6 k7 k8
                refine wpAny_take (i := 11) (v := .agg #[.bool fd, .string fn, .int .i64 fi, .int .i64 fj, .slice ao' bL cap', .int .i64 0, .int .i64 0, .string ⟨#[]⟩, .slice none 0 0]) rfl (by kernel_rfl) (by kernel_rfl) (by kernel_rfl) (fun c a w h => absurd h.1 (by simp)) (Or.inl ⟨by rfl, fun W => by first | (go_simp; done) | (go_simp; with_reducible rfl)⟩) ?_
                refine wpAny_ready (rs := [13]) (by kernel_rfl) (by simp) ?_
                refine AllReady.cons rfl (fun K hK => ?_) AllReady.nil
                go_simp
                refine hK _ _ ?_
                clear hK K
                refine wpAny_done (by kernel_rfl) ?_ _
                exact ⟨rfl, w1.heap.size, ao', cap', rfl, ftB (g2.out.1.lower (by simp)) g2.out.2⟩
          · skip
            go_simp
            refine hK _ _ ?_
            clear hK K
            refine wpAny_ready (rs := [4, 10]) (by kernel_rfl) (by simp) ?_
            refine AllReady.cons rfl (fun K hK => ?_) (AllReady.cons rfl (fun K hK => ?_) AllReady.nil)
            · skip
              go_simp
              refine hK _ _ ?_
              clear hK K
              refine wpAny_ready (rs := [10]) (by kernel_rfl) (by simp) ?_
              refine AllReady.cons rfl (fun K hK => ?_) AllReady.nil
              · skip
                go_simp
                go_wp2_with (go_at_call 27; refine (show Calls Tryz.prog 27 _ _ _ from HD.out _ (O1.out.drew.alloc _)).mono ?_; rintro ex w2 ⟨ao', cap', rfl, g2⟩)
                have O2 : Only (fun _ => False) w1 w2 := ((Only.refl _ w1).drew.alloc _).trans g2.out.2 (fun _ _ g => g)
                have bF : w2.heap[w1.heap.size]? = some (.cells #[.bool false, .string ⟨#[]⟩, .int .i64 0, .int .i64 0, .slice none 0 0, .int .i64 0, .int .i64 0, .string ⟨#[]⟩, .slice none 0 0] 75) := (g2.out.2.block w1.heap.size (by simp) (fun h => h)).trans (alloc_at _ _ _ rfl)
                have k0 := blk_cells bF 0
                have y0 := blk_froz bF 0
                have k1 := blk_cells bF 1
                have y1 := blk_froz bF 1
                have k2 := blk_cells bF 2
                have y2 := blk_froz bF 2
                have k3 := blk_cells bF 3
                have y3 := blk_froz bF 3
                have k4 := blk_cells bF 4
                have y4 := blk_froz bF 4
                have k5 := blk_cells bF 5
                have y5 := blk_froz bF 5
                have k6 := blk_cells bF 6
                have y6 := blk_froz bF 6
                have k7 := blk_cells bF 7
                have y7 := blk_froz bF 7
                have k8 := blk_cells bF 8
                have y8 := blk_froz bF 8
                simp only [List.getElem?_toArray, List.getElem?_cons_zero, List.getElem?_cons_succ] at k0 k1 k2 k3 k4 k5 k6 k7 k8
                refine wpAny_take (i := 11) (v := .agg #[.bool fd, .string fn, .int .i64 fi, .int .i64 fj, .slice ao' bL cap', .int .i64 0, .int .i64 0, .string ⟨#[]⟩, .slice none 0 0]) rfl (by kernel_rfl) (by kernel_rfl) (by kernel_rfl) (fun c a w h => absurd h.1 (by simp)) (Or.inl ⟨by rfl, fun W => by first | (go_simp; done) | (go_simp; with_reducible rfl)⟩) ?_
                refine wpAny_ready (rs := [13]) (by kernel_rfl) (by simp) ?_
                refine AllReady.cons rfl (fun K hK => ?_) AllReady.nil
                go_simp
                refine hK _ _ ?_
                clear hK K
                refine wpAny_done (by kernel_rfl) ?_ _
                exact ⟨rfl, w1.heap.size, ao', cap', rfl, ftB (g2.out.1.lower (by simp)) g2.out.2⟩
            · skip
              go_simp
              go_wp2_with (go_at_call 27; refine (show Calls Tryz.prog 27 _ _ _ from HD.out _ (O1.out.drew.alloc _)).mono ?_; rintro ex w2 ⟨ao', cap', rfl, g2⟩)
              have O2 : Only (fun _ => False) w1 w2 := ((Only.refl _ w1).drew.alloc _).trans g2.out.2 (fun _ _ g => g)
              have bF : w2.heap[w1.heap.size]? = some (.cells #[.bool false, .string ⟨#[]⟩, .int .i64 0, .int .i64 0, .slice none 0 0, .int .i64 0, .int .i64 0, .string ⟨#[]⟩, .slice none 0 0] 75) := (g2.out.2.block w1.heap.size (by simp) (fun h => h)).trans (alloc_at _ _ _ rfl)
              have k0 := blk_cells bF 0
              have y0 := blk_froz bF 0
              have k1 := blk_cells bF 1
              have y1 := blk_froz bF 1
              have k2 := blk_cells bF 2
              have y2 := blk_froz bF 2
              have k3 := blk_cells bF 3
              have y3 := blk_froz bF 3
              have k4 := blk_cells bF 4
              have y4 := blk_froz bF 4
              have k5 := blk_cells bF 5
              have y5 := blk_froz bF 5
              have k6 := blk_cells bF 6
              have y6 := blk_froz bF 6
              have k7 := blk_cells bF 7
              have y7 := blk_froz bF 7
              have k8 := blk_cells bF 8
              have y8 := blk_froz bF 8
              simp only [List.getElem?_toArray, List.getElem?_cons_zero, List.getElem?_cons_succ] at k0 k1 k2 k3 k4 k5 k6 k7 k8
              have e0 := (HS.out w2 O2).1
              refine wpAny_ready (rs := [4]) (by kernel_rfl) (by simp) ?_
              refine AllReady.cons rfl (fun K hK => ?_) AllReady.nil
              · skip
                go_simp
                refine hK _ _ ?_
                clear hK K
                refine wpAny_take (i := 11) (v := .agg #[.bool fd, .string fn, .int .i64 fi, .int .i64 fj, .slice ao' bL cap', .int .i64 0, .int .i64 0, .string ⟨#[]⟩, .slice none 0 0]) rfl (by kernel_rfl) (by kernel_rfl) (by kernel_rfl) (fun c a w h => absurd h.1 (by simp)) (Or.inl ⟨by rfl, fun W => by first | (go_simp; done) | (go_simp; with_reducible rfl)⟩) ?_
                refine wpAny_ready (rs := [13]) (by kernel_rfl) (by simp) ?_
                refine AllReady.cons rfl (fun K hK => ?_) AllReady.nil
                go_simp
                refine hK _ _ ?_
                clear hK K
                refine wpAny_done (by kernel_rfl) ?_ _
                exact ⟨rfl, w1.heap.size, ao', cap', rfl, ftB (g2.out.1.lower (by simp)) g2.out.2⟩
      · rintro a' W' ⟨P, ao', cap', rfl, HF⟩
        have hblk := HF.out.1
        have o2 := HF.out.2.2.1
        have hP := HF.out.2.1
        have c5 : W'.cell? ⟨g, i * 6 + 5, none⟩ = some iv := o2.cell HC5.out (fun g => g)
        have HFX : Hid (FtK w1 d fm.b fd fn fi fj bL P ao' cap' W') := HF.out
        have F2 : VfAt W' w.heap.size (d + 1) (.slice ao i cap) (l.take i) := HI.out.1.only o2 (fun _ _ h => h)
        have hlt : ∀ k, (Value.slice ao i cap).ownBlock = some k → k < w1.heap.size := fun k hk => by
          obtain ⟨us, S', hr, _⟩ := HI.out.1
          exact (hr.lt k hk).2
        obtain ⟨hx, hiN, hNl, hN4⟩ := HXX.out
        have htk : (l.take i).length = i := by simp; omega
        have hsz := HI.out.2.size
        have hsz2 := o2.size
        obtain ⟨e1, e2, e3, e4⟩ := HFF.out
        have eb : bL = fm.b.length := HBL.out
        have HTK : Hid (l.take i ++ [fm] = l.take (i + 1) ∧ (l.take (i + 1)).length = i + 1) := ⟨by rw [List.take_add_one, hx]; rfl, by simp; omega⟩
        have k0 := blk_cells hblk 0
        have y0 := blk_froz hblk 0
        have k1 := blk_cells hblk 1
        have y1 := blk_froz hblk 1
        have k2 := blk_cells hblk 2
        have y2 := blk_froz hblk 2
        have k3 := blk_cells hblk 3
        have y3 := blk_froz hblk 3
        have k4 := blk_cells hblk 4
        have y4 := blk_froz hblk 4
        have k5 := blk_cells hblk 5
        have y5 := blk_froz hblk 5
        have k6 := blk_cells hblk 6
        have y6 := blk_froz hblk 6
        have k7 := blk_cells hblk 7
        have y7 := blk_froz hblk 7
        have k8 := blk_cells hblk 8
        have y8 := blk_froz hblk 8
        simp only [List.getElem?_toArray, List.getElem?_cons_zero, List.getElem?_cons_succ] at k0 k1 k2 k3 k4 k5 k6 k7 k8
        rcases HIT.out with ⟨hd, hiv, hno⟩ | ⟨hd, ⟨T, y, hiv⟩, hcall⟩
        · subst hiv
          have hb := HF.out.2.2.2 W' (Only.refl _ _)
          obtain ⟨v', w4, hr, hf, ho⟩ := app_rf (fm := fm) (bl := .slice ao' bL cap') (il := .slice none 0 0) F2 (hb.tree rfl) (by rw [hno]; exact nv_nil rfl) hsz hlt (by omega) (by omega)
          rw [← e1, ← e2, ← e3, ← e4, hno] at hr
          have hr2 : ∀ ty, (Builtin.append_ #[44, 44] ty #[.slice ao i cap, .slice (some ⟨W'.heap.size, 0, none⟩) 1 1]).run Tryz.prog (W'.alloc (.cells #[.bool fd, .string fn, .int .i64 fi, .int .i64 fj, .slice ao' bL cap', .int .i64 0, .int .i64 0, .string ⟨#[]⟩, .slice none 0 0] 75)) = .ok v' w4 := hr
          rw [HTK.out.1] at hf
          obtain ⟨ao2, cap2, hv2⟩ := hf.form
          rw [HTK.out.2] at hv2
          subst hv2
          have HK5 : Hid (VfAt w4 w.heap.size (d + 1) (.slice ao2 (i + 1) cap2) (l.take (i + 1)) ∧ Only (fun _ => False) w w4) := ⟨hf, (HI.out.2.trans o2 (fun _ _ g => g)).trans ho (fun k hk e => by omega)⟩
          have HB : Hid (i < N ∧ N ≤ 4096) := ⟨hiN, by omega⟩
          clear HI HF HFX F2 hlt HIT HD HS hx htk hr hf ho hb hblk o2 e1 e2 e3 e4 eb HXX HFF HC5 c0 c1 c2 c3 c4 hgl hd hno hNl hN4 hiN hsz hsz2 hP HTK
          have hi4 : i ≤ 4096 := by have := HB.out; omega
          go_wp2_with (at_builtin; refine wpList_append_run (by rfl) _ _ 44 (by rfl) _ _ (.slice ao2 (i + 1) cap2) (by rfl) (by rfl) hr2 ?_)
          clear hr2
          go_wp2
          go_roundw
          case rel => exact ⟨i + 1, ao2, cap2, rfl, by go_num, by have := HB.out; omega, HK5⟩
          case measure => simp only [uOf]; have := HB.out; omega
        · subst hiv
          have HCI : Hid (Calls Tryz.prog 16 #[.iface T y] W' fun e w' => ∃ lv, e = .returned (.agg #[.int .i64 (fm.it.k : Int), .int .i64 (vn fm.it), .string (vs fm.it), lv]) ∧ Hid (NvAt w' W'.heap.size d fm.it lv ∧ Only (fun _ => False) W' w')) := hcall W' (HI.out.2.trans o2 (fun _ _ g => g))
          obtain ⟨x0, hx0⟩ : ∃ x0, x0 = (fm.it.k : Int) := ⟨_, rfl⟩
          obtain ⟨x1, hx1⟩ : ∃ x1, x1 = vn fm.it := ⟨_, rfl⟩
          obtain ⟨x2, hx2⟩ : ∃ x2, x2 = vs fm.it := ⟨_, rfl⟩
          rw [← hx0, ← hx1, ← hx2] at HCI
          have HALL : Hid ((x0 = (fm.it.k : Int) ∧ x1 = vn fm.it ∧ x2 = vs fm.it) ∧ (fd = fm.d ∧ fn = fm.nm ∧ fi = fm.i ∧ fj = fm.j) ∧ bL = fm.b.length ∧ (l.take i).length = i ∧ i < N ∧ N = l.length ∧ l.length ≤ 4096 ∧ (∀ k, (Value.slice ao i cap).ownBlock = some k → k < w1.heap.size)) := ⟨⟨hx0, hx1, hx2⟩, ⟨e1, e2, e3, e4⟩, eb, htk, hiN, hNl, hN4, hlt⟩
          have HB : Hid (i < N ∧ N ≤ 4096) := ⟨hiN, by omega⟩
          have hi4 : i ≤ 4096 := by omega
          clear F2 hlt HIT HD HS hx htk hcall o2 e1 e2 e3 e4 eb HXX HFF HC5 c0 c1 c2 c3 c4 hgl hd hNl hN4 hiN hsz hsz2 hP hx0 hx1 hx2 hblk k0 y0 k1 y1 k2 y2 k3 y3 k4 y4 k5 y5 k6 y6 k7 y7 k8 y8
          go_wp2_with fail
          refine (show Calls Tryz.prog 16 _ _ _ from HCI.out).mono ?_
          rintro e w3 ⟨lv, rfl, g3⟩
          obtain ⟨al, cl, hlv⟩ := g3.out.1.form
          obtain ⟨xl, hxl⟩ : ∃ xl, xl = fm.it.l.length := ⟨_, rfl⟩
          rw [← hxl] at hlv
          subst hlv
          clear hxl HCI c5
          obtain ⟨⟨q0, q1, q2⟩, ⟨e1, e2, e3, e4⟩, eb, htk, hiN, hNl, hN4, hlt⟩ := HALL.out
          have o3 := g3.out.2
          have hPW : P < W'.heap.size := (Array.getElem?_eq_some_iff.1 HF.out.1).1
          have hP1 := HF.out.2.1
          have hb3 : w3.heap[P]? = some (.cells #[.bool fd, .string fn, .int .i64 fi, .int .i64 fj, .slice ao' bL cap', .int .i64 0, .int .i64 0, .string ⟨#[]⟩, .slice none 0 0] 75) := (o3.block P hPW (fun h => h)).trans HF.out.1
          have oU : Only (fun b => b = P) w3 ((((w3.setCell ⟨P, 5, none⟩ (.int .i64 x0)).setCell ⟨P, 6, none⟩ (.int .i64 x1)).setCell ⟨P, 7, none⟩ (.string x2)).setCell ⟨P, 8, none⟩ (.slice al xl cl)) := ((((Only.refl (fun b => b = P) w3).setCell ⟨P, 5, none⟩ _ (fun _ => rfl)).setCell ⟨P, 6, none⟩ _ (fun _ => rfl)).setCell ⟨P, 7, none⟩ _ (fun _ => rfl)).setCell ⟨P, 8, none⟩ _ (fun _ => rfl)
          have oW : Only (fun b => b = P) W' ((((w3.setCell ⟨P, 5, none⟩ (.int .i64 x0)).setCell ⟨P, 6, none⟩ (.int .i64 x1)).setCell ⟨P, 7, none⟩ (.string x2)).setCell ⟨P, 8, none⟩ (.slice al xl cl)) := (o3.mono (bs' := fun b => b = P) (fun _ _ h => h.elim)).trans oU (fun _ _ g => g)
          have o1U : Only (fun _ => False) w1 ((((w3.setCell ⟨P, 5, none⟩ (.int .i64 x0)).setCell ⟨P, 6, none⟩ (.int .i64 x1)).setCell ⟨P, 7, none⟩ (.string x2)).setCell ⟨P, 8, none⟩ (.slice al xl cl)) := HF.out.2.2.1.trans oW (fun b h e => by omega)
          have hb := HF.out.2.2.2 _ oW
          have hn := ((g3.out.1.only oU (fun b h e => by omega)).lower (show w1.heap.size ≤ W'.heap.size by have := HF.out.2.2.1.size; omega)).deep (show d ≤ d + 1 by omega)
          have hsz := HI.out.2.size
          have hszU := o1U.size
          obtain ⟨v', w4, hr, hf, ho⟩ := app_rf (fm := fm) (bl := .slice ao' bL cap') (il := .slice al xl cl) (HI.out.1.only o1U (fun _ _ h => h)) (hb.tree rfl) hn hsz hlt (by omega) (by omega)
          rw [← e1, ← e2, ← e3, ← e4, ← q0, ← q1, ← q2] at hr
          have hr2 : ∀ ty, (Builtin.append_ #[44, 44] ty #[.slice ao i cap, .slice (some ⟨w3.heap.size, 0, none⟩) 1 1]).run Tryz.prog (((((w3.setCell ⟨P, 5, none⟩ (.int .i64 x0)).setCell ⟨P, 6, none⟩ (.int .i64 x1)).setCell ⟨P, 7, none⟩ (.string x2)).setCell ⟨P, 8, none⟩ (.slice al xl cl)).alloc (.cells #[.bool fd, .string fn, .int .i64 fi, .int .i64 fj, .slice ao' bL cap', .int .i64 x0, .int .i64 x1, .string x2, .slice al xl cl] 75)) = .ok v' w4 := by
            intro ty
            have := hr ty
            rwa [show ((((w3.setCell ⟨P, 5, none⟩ (.int .i64 x0)).setCell ⟨P, 6, none⟩ (.int .i64 x1)).setCell ⟨P, 7, none⟩ (.string x2)).setCell ⟨P, 8, none⟩ (.slice al xl cl)).heap.size = w3.heap.size by simp] at this
          rw [HTK.out.1] at hf
          obtain ⟨ao2, cap2, hv2⟩ := hf.form
          rw [HTK.out.2] at hv2
          subst hv2
          have HK5 : Hid (VfAt w4 w.heap.size (d + 1) (.slice ao2 (i + 1) cap2) (l.take (i + 1)) ∧ Only (fun _ => False) w w4) := ⟨hf, (HI.out.2.trans o1U (fun _ _ g => g)).trans ho (fun k hk e => by omega)⟩
          have k0 := blk_cells hb3 0
          have y0 := blk_froz hb3 0
          have k1 := blk_cells hb3 1
          have y1 := blk_froz hb3 1
          have k2 := blk_cells hb3 2
          have y2 := blk_froz hb3 2
          have k3 := blk_cells hb3 3
          have y3 := blk_froz hb3 3
          have k4 := blk_cells hb3 4
          have y4 := blk_froz hb3 4
          have k5 := blk_cells hb3 5
          have y5 := blk_froz hb3 5
          have k6 := blk_cells hb3 6
          have y6 := blk_froz hb3 6
          have k7 := blk_cells hb3 7
          have y7 := blk_froz hb3 7
          have k8 := blk_cells hb3 8
          have y8 := blk_froz hb3 8
          simp only [List.getElem?_toArray, List.getElem?_cons_zero, List.getElem?_cons_succ] at k0 k1 k2 k3 k4 k5 k6 k7 k8
          clear HI HF HFX hb hn hr hf ho oU oW o1U o3 g3 hb3 q0 q1 q2 e1 e2 e3 e4 eb htk hiN hNl hN4 hlt hPW hP1 hsz hszU HALL HTK
          go_wp2_with (at_builtin; refine wpList_append_run (by rfl) _ _ 44 (by rfl) _ _ (.slice ao2 (i + 1) cap2) (by rfl) (by rfl) hr2 ?_)
          clear hr2
          go_wp2
          go_roundw
          case rel => exact ⟨i + 1, ao2, cap2, rfl, by go_num, by have := HB.out; omega, HK5⟩
          case measure => simp only [uOf]; have := HB.out; omega
    · obtain rfl : i = N := by omega
      have i1 : ¬ (i : Int) < (i : Int) := by omega
      have HK : Hid (VfAt w1 w.heap.size (d + 1) (.slice ao i cap) l ∧ Only (fun _ => False) w w1) := by
        have := HI.out
        rw [hNl, List.take_length, ← hNl] at this
        exact this
      clear HI hNl hN4
      go_wp2
      go_ret
      exact ⟨ao, cap, rfl, HK⟩
end Go.Proofs.YtmpfbjmaiddigaaGreatDoor
