/- The definition that a line is. FormTrees: the walk. Trees that are the same: Same, SameAll. Forms that are the same: SameDef, SameForms. Rows of structures of one's own, whatever they hold. -/
import Derived.Test.YtmmggnmgimgdfaaDoorGal
import Derived.Test.YtmmggnmgimgdfaaDoorGak
namespace Go.Proofs.YtmmggnmgimgdfaaDoor
open Go.RowKit
set_option linter.unusedSimpArgs false
set_option linter.unusedVariables false
/-- what definitionOf answers -/
def DeP (o : Option Fm) (w : World) (e : Ending) (w' : World) : Prop :=
  match o with
  | none => e = .returned (.tuple #[.agg #[.string ⟨#[]⟩, .int .i64 0, .int .i64 0, .slice none 0 0], .bool false]) ∧ Hid (Only (fun _ => False) w w')
  | some fm => ∃ ao cap, e = .returned (.tuple #[.agg #[.string fm.nm, .int .i64 (fm.i : Int), .int .i64 (fm.j : Int), .slice ao fm.b.length cap], .bool true]) ∧ Hid ((∃ S, SqAt w' S 12400 true (.slice ao fm.b.length cap) fm.b ∧ ∀ b, S b → w.heap.size ≤ b ∧ Liv w' b) ∧ Only (fun _ => False) w w')
theorem results_mdef {fn : Func} {u t : Tmp} (h : fn.results = #[.cell u 54, .tmp t]) (tmps : Array Value) (w : World) (B : Nat) {x0 x1 x2 x3 : Value} (hb : w.heap[B]? = some (.cells #[x0, x1, x2, x3] 54)) (ha : tmps.getD u undef = .pointer (some ⟨B, 0, none⟩)) :
    (results fn tmps).run Tryd.prog w = .ok (.tuple #[.agg #[x0, x1, x2, x3], tmps.getD t undef]) w := by
  have ha' : tmps[u]?.getD undef = .pointer (some ⟨B, 0, none⟩) := by simpa using ha
  have c0 := blk_cells hb 0
  have c1 := blk_cells hb 1
  have c2 := blk_cells hb 2
  have c3 := blk_cells hb 3
  simp only [List.getElem?_toArray, List.getElem?_cons_zero, List.getElem?_cons_succ] at c0 c1 c2 c3
  simp [results, h, ha', asAddr, go_sem, loadVar, isAgg, Tryd.underlying54, c0, c1, c2, c3]
theorem lset4 {w : World} {B : Nat} {a b c d : Value} {t : TypeId} (h : w.heap[B]? = some (.cells #[a, b, c, d] t)) (x0 x1 x2 x3 : Value) :
    ((((w.setCell ⟨B, 0, none⟩ x0).setCell ⟨B, 1, none⟩ x1).setCell ⟨B, 2, none⟩ x2).setCell ⟨B, 3, none⟩ x3).heap[B]? = some (.cells #[x0, x1, x2, x3] t) := by
  have g1 := heap_setCell_same _ B 0 _ _ x0 h
  have g2 := heap_setCell_same _ B 1 _ _ x1 g1
  have g3 := heap_setCell_same _ B 2 _ _ x2 g2
  have g4 := heap_setCell_same _ B 3 _ _ x3 g3
  exact g4
theorem lonly4 {w : World} {B : Nat} (x0 x1 x2 x3 : Value) : Only (fun b => b = B) w ((((w.setCell ⟨B, 0, none⟩ x0).setCell ⟨B, 1, none⟩ x1).setCell ⟨B, 2, none⟩ x2).setCell ⟨B, 3, none⟩ x3) :=
  ((((Only.refl (fun b => b = B) w).setCell ⟨B, 0, none⟩ _ (fun _ => rfl)).setCell ⟨B, 1, none⟩ _ (fun _ => rfl)).setCell ⟨B, 2, none⟩ _ (fun _ => rfl)).setCell ⟨B, 3, none⟩ _ (fun _ => rfl)
theorem defO_wf {T : ByteArray} {fm : Fm} (h : defO T = some fm) : Wff fm := by
  unfold defO at h
  split at h
  · split at h
    · rename_i hl
      split at h
      · injection h with h
        rw [← h]
        exact (@parR_wf T).2 _ (by rw [hl]; exact List.mem_singleton_self _)
      · cases h
    · cases h
  · cases h
set_option maxRecDepth 100000 in
set_option maxHeartbeats 4000000 in
theorem definitionOf_any (T : ByteArray) (w : World) (hN : Nog w) : Calls Tryd.prog 16 #[.string T] w (DeP (defO T) w) := by
  obtain ⟨C, hC⟩ : ∃ C, C = w.heap.size := ⟨_, rfl⟩
  obtain ⟨W, hW⟩ : ∃ W, W = w.alloc (.cells #[.string ⟨#[]⟩, .int .i64 0, .int .i64 0, .slice none 0 0] 54) := ⟨_, rfl⟩
  have oW : Only (fun _ => False) w W := by rw [hW]; exact (Only.refl _ w).alloc _
  have bC : W.heap[C]? = some (.cells #[.string ⟨#[]⟩, .int .i64 0, .int .i64 0, .slice none 0 0] 54) := by rw [hW]; exact alloc_at _ _ _ hC
  have hP := parse_any T W (hN.frame oW)
  obtain ⟨l, hl⟩ : ∃ l, l = (parR T).1 := ⟨_, rfl⟩
  obtain ⟨E, hE⟩ : ∃ E, E = (parR T).2.2 := ⟨_, rfl⟩
  have HP : Hid (Calls Tryd.prog 24 #[.string T] W fun x w' => ∃ ao cap p, x = .returned (.tuple #[.slice ao l.length cap, .int .i64 p, .int .i64 E]) ∧ Hid (FsAt w' W.heap.size 12400 (.slice ao l.length cap) l ∧ Only (fun _ => False) W w')) := hP.mono fun x w' g => by
    obtain ⟨v, he, g⟩ := g
    obtain ⟨ao, cap, hv⟩ := g.out.1.form
    subst hv
    rw [← hl, ← hE] at he
    have g1 := g.out.1
    rw [← hl] at g1
    exact ⟨ao, cap, _, he, g1, below_only g.out.2⟩
  have hd : defO T = if E = 0 then (match l with | [fm] => if fm.d then some fm else none | _ => none) else none := by rw [hl, hE]; rfl
  rw [hd]
  have HW : Hid (Only (fun _ => False) w W ∧ W.heap[C]? = some (.cells #[.string ⟨#[]⟩, .int .i64 0, .int .i64 0, .slice none 0 0] 54)) := ⟨oW, bC⟩
  have HCW : Hid (C = w.heap.size) := hC
  clear hP hl hE hd hN oW bC
  have HX : Hid (∀ w1, Only (fun _ => False) W w1 → (w1.heap[C]? = some (.cells #[.string ⟨#[]⟩, .int .i64 0, .int .i64 0, .slice none 0 0] 54) ∧ Only (fun _ => False) w w1 ∧ ∀ x0 x1 x2 x3, Only (fun _ => False) w ((((w1.setCell ⟨C, 0, none⟩ x0).setCell ⟨C, 1, none⟩ x1).setCell ⟨C, 2, none⟩ x2).setCell ⟨C, 3, none⟩ x3))) := fun w1 o1 => by
    have o2 := HW.out.1.trans o1 (fun _ _ g => g)
    exact ⟨(o1.block C (Array.getElem?_eq_some_iff.1 HW.out.2).1 (fun g => g)).trans HW.out.2, o2, fun x0 x1 x2 x3 => o2.trans (lonly4 _ _ _ _) (fun k hk g => by have := HCW.out; omega)⟩
  by_cases h0 : E = 0
  · subst h0
    rw [if_pos rfl]
    match l with
    | [] =>
      obtain ⟨o, ho⟩ : ∃ o : Option Fm, o = none := ⟨_, rfl⟩
      show Calls _ _ _ _ (DeP none w)
      go_enter Tryd.func16, Tryd.ntmps16
      go_wp2_with fail
      rw [← hW, ← hC]
      refine (show Calls Tryd.prog 24 _ _ _ from HP.out).mono ?_
      rintro e w1 ⟨ao, cap, p, rfl, g1⟩
      obtain ⟨b1, o1, on⟩ := HX.out w1 g1.out.2
      have HB : Hid (w1.heap[C]? = some (.cells #[.string ⟨#[]⟩, .int .i64 0, .int .i64 0, .slice none 0 0] 54)) := b1
      have c0 : w1.cell? ⟨C, 0, none⟩ = some (.string ⟨#[]⟩) := blk_cells b1 0
      have c1 : w1.cell? ⟨C, 1, none⟩ = some (.int .i64 0) := blk_cells b1 1
      have c2 : w1.cell? ⟨C, 2, none⟩ = some (.int .i64 0) := blk_cells b1 2
      have c3 : w1.cell? ⟨C, 3, none⟩ = some (.slice none 0 0) := blk_cells b1 3
      have f0 := blk_froz b1 0
      have f1 := blk_froz b1 1
      have f2 := blk_froz b1 2
      have f3 := blk_froz b1 3
      have ON : Hid (∀ x0 x1 x2 x3, Only (fun _ => False) w ((((w1.setCell ⟨C, 0, none⟩ x0).setCell ⟨C, 1, none⟩ x1).setCell ⟨C, 2, none⟩ x2).setCell ⟨C, 3, none⟩ x3)) := on
      clear HP g1 b1 o1 on HX HW hW hC
      go_wp2
      refine bodyPost_ret (results_mdef rfl _ _ C (lset4 HB.out _ _ _ _) rfl) rfl ?_
      exact ⟨rfl, ON.out _ _ _ _⟩
    | a :: b :: r =>
      show Calls _ _ _ _ (DeP none w)
      obtain ⟨L, hL⟩ : ∃ L, L = (a :: b :: r).length := ⟨_, rfl⟩
      rw [← hL] at HP
      have hL1 : (L : Int) ≠ 1 := by rw [hL]; simp; omega
      have hL2 : ((L : Int) != 1) = true := by simpa using hL1
      clear hL hL1
      go_enter Tryd.func16, Tryd.ntmps16
      go_wp2_with fail
      rw [← hW, ← hC]
      refine (show Calls Tryd.prog 24 _ _ _ from HP.out).mono ?_
      rintro e w1 ⟨ao, cap, p, rfl, g1⟩
      obtain ⟨b1, o1, on⟩ := HX.out w1 g1.out.2
      have HB : Hid (w1.heap[C]? = some (.cells #[.string ⟨#[]⟩, .int .i64 0, .int .i64 0, .slice none 0 0] 54)) := b1
      have c0 : w1.cell? ⟨C, 0, none⟩ = some (.string ⟨#[]⟩) := blk_cells b1 0
      have c1 : w1.cell? ⟨C, 1, none⟩ = some (.int .i64 0) := blk_cells b1 1
      have c2 : w1.cell? ⟨C, 2, none⟩ = some (.int .i64 0) := blk_cells b1 2
      have c3 : w1.cell? ⟨C, 3, none⟩ = some (.slice none 0 0) := blk_cells b1 3
      have f0 := blk_froz b1 0
      have f1 := blk_froz b1 1
      have f2 := blk_froz b1 2
      have f3 := blk_froz b1 3
      have ON : Hid (∀ x0 x1 x2 x3, Only (fun _ => False) w ((((w1.setCell ⟨C, 0, none⟩ x0).setCell ⟨C, 1, none⟩ x1).setCell ⟨C, 2, none⟩ x2).setCell ⟨C, 3, none⟩ x3)) := on
      clear HP g1 b1 o1 on HX HW hW hC
      go_wp2
      refine bodyPost_ret (results_mdef rfl _ _ C (lset4 HB.out _ _ _ _) rfl) rfl ?_
      exact ⟨rfl, ON.out _ _ _ _⟩
    | [fm] =>
      show Calls _ _ _ _ (DeP (if fm.d then some fm else none) w)
      cases hfd : fm.d with
      | false =>
        show Calls _ _ _ _ (DeP none w)
        go_enter Tryd.func16, Tryd.ntmps16
        go_wp2_with fail
        rw [← hW, ← hC]
        refine (show Calls Tryd.prog 24 _ _ _ from HP.out).mono ?_
        rintro e w1 ⟨ao, cap, p, rfl, g1⟩
        obtain ⟨b1, o1, on⟩ := HX.out w1 g1.out.2
        obtain ⟨S, ao', cap', hv, hr⟩ := g1.out.1.read
        obtain ⟨g, bv, iv, hao, ⟨x0, _⟩, _⟩ := hr 0 fm rfl
        injection hv with v1 v2 v3
        subst v1
        subst hao
        rw [hfd] at x0
        have HB : Hid (w1.heap[C]? = some (.cells #[.string ⟨#[]⟩, .int .i64 0, .int .i64 0, .slice none 0 0] 54)) := b1
        have y0 : w1.cell? ⟨g, 0, none⟩ = some (.bool false) := x0
        have c0 : w1.cell? ⟨C, 0, none⟩ = some (.string ⟨#[]⟩) := blk_cells b1 0
        have c1 : w1.cell? ⟨C, 1, none⟩ = some (.int .i64 0) := blk_cells b1 1
        have c2 : w1.cell? ⟨C, 2, none⟩ = some (.int .i64 0) := blk_cells b1 2
        have c3 : w1.cell? ⟨C, 3, none⟩ = some (.slice none 0 0) := blk_cells b1 3
        have f0 := blk_froz b1 0
        have f1 := blk_froz b1 1
        have f2 := blk_froz b1 2
        have f3 := blk_froz b1 3
        have ON : Hid (∀ x0 x1 x2 x3, Only (fun _ => False) w ((((w1.setCell ⟨C, 0, none⟩ x0).setCell ⟨C, 1, none⟩ x1).setCell ⟨C, 2, none⟩ x2).setCell ⟨C, 3, none⟩ x3)) := on
        clear HP g1 b1 o1 on HX HW hW hC hr v2 v3 x0 hfd
        go_wp2
        refine bodyPost_ret (results_mdef rfl _ _ C (lset4 HB.out _ _ _ _) rfl) rfl ?_
        exact ⟨rfl, ON.out _ _ _ _⟩
      | true =>
        show Calls _ _ _ _ (DeP (some fm) w)
        go_enter Tryd.func16, Tryd.ntmps16
        go_wp2_with fail
        rw [← hW, ← hC]
        refine (show Calls Tryd.prog 24 _ _ _ from HP.out).mono ?_
        rintro e w1 ⟨ao, cap, p, rfl, g1⟩
        obtain ⟨b1, o1, on⟩ := HX.out w1 g1.out.2
        obtain ⟨us, S, hown, ht, hS⟩ := g1.out.1
        obtain ⟨bv, iv, ⟨u0, u1, u2, u3, u4, _⟩, hfm⟩ := ht 0 fm rfl
        obtain ⟨g, cap', cur, hv, hB, hg, hn, hcm, hcs, htk⟩ : ∃ g cap' cur, Value.slice ao [fm].length cap = .slice (some ⟨g, 0, none⟩) [fm].length cap' ∧ W.heap.size ≤ g ∧ w1.heap[g]? = some (.cells cur 74) ∧ [fm].length ≤ cap' ∧ cap' ≤ maxLen ∧ cur.size = cap' * 6 ∧ cur.toList.take ([fm].length * 6) = us := by
          rcases hown.2 with ⟨_, h2⟩ | ⟨g, cap', cur, hv, hB, hg, hn, hcm, hcs, htk⟩
          · simp at h2
          · exact ⟨g, cap', cur, hv, hB, hg, hn, hcm, hcs, htk⟩
        have hc : ∀ j u, us[j]? = some u → w1.cell? ⟨g, j, none⟩ = some u := fun j u hu => by
          have := hown.cells (g := g) (by rw [hv]; rfl) j u hu
          rwa [addr_ad] at this
        injection hv with v1 v2 v3
        subst v1
        rw [hfd] at u0
        have y0 : w1.cell? ⟨g, 0, none⟩ = some (.bool true) := hc 0 _ u0
        have y1 : w1.cell? ⟨g, 1, none⟩ = some (.string fm.nm) := hc 1 _ u1
        have y2 : w1.cell? ⟨g, 2, none⟩ = some (.int .i64 (fm.i : Int)) := hc 2 _ u2
        have y3 : w1.cell? ⟨g, 3, none⟩ = some (.int .i64 (fm.j : Int)) := hc 3 _ u3
        have y4 : w1.cell? ⟨g, 4, none⟩ = some bv := hc 4 _ u4
        obtain ⟨bo, bc, rfl, hbc, hbl⟩ : ∃ bo bc, bv = .slice bo fm.b.length bc ∧ fm.b.length ≤ bc ∧ ∀ (j : Nat) (x : Tre), fm.b[j]? = some x → ∃ g k u, bo = some ⟨g, k, none⟩ ∧ S g ∧ w1.cell? ⟨g, k + j, none⟩ = some u ∧ TrAt w1 S 12400 true x u := by
          rcases hfm with ⟨_, _, ⟨bo, bc, h1, h2, h3⟩, _⟩ | ⟨h, _⟩
          · exact ⟨bo, bc, h1, h2, h3⟩
          · rw [hfd] at h; cases h
        have HQ : Hid (SqAt w1 S 12400 true (.slice bo fm.b.length bc) fm.b ∧ (∀ b, S b → w.heap.size ≤ b ∧ b ≠ C ∧ Liv w1 b) ∧ C < w1.heap.size) := by
          refine ⟨⟨bo, bc, rfl, hbc, hbl⟩, fun b hb => ?_, (Array.getElem?_eq_some_iff.1 b1).1⟩
          have h1 := hS b hb
          have h2 := HW.out.1.size
          have h3 := (Array.getElem?_eq_some_iff.1 HW.out.2).1
          exact ⟨by omega, by omega, h1.2.1⟩
        have HB : Hid (w1.heap[C]? = some (.cells #[.string ⟨#[]⟩, .int .i64 0, .int .i64 0, .slice none 0 0] 54)) := b1
        have c0 : w1.cell? ⟨C, 0, none⟩ = some (.string ⟨#[]⟩) := blk_cells b1 0
        have c1 : w1.cell? ⟨C, 1, none⟩ = some (.int .i64 0) := blk_cells b1 1
        have c2 : w1.cell? ⟨C, 2, none⟩ = some (.int .i64 0) := blk_cells b1 2
        have c3 : w1.cell? ⟨C, 3, none⟩ = some (.slice none 0 0) := blk_cells b1 3
        have f0 := blk_froz b1 0
        have f1 := blk_froz b1 1
        have f2 := blk_froz b1 2
        have f3 := blk_froz b1 3
        have ON : Hid (∀ x0 x1 x2 x3, Only (fun _ => False) w ((((w1.setCell ⟨C, 0, none⟩ x0).setCell ⟨C, 1, none⟩ x1).setCell ⟨C, 2, none⟩ x2).setCell ⟨C, 3, none⟩ x3)) := on
        clear HP g1 b1 o1 on HX HW hW hC v2 v3 hfd hbl hbc hfm u0 u1 u2 u3 u4 hc hown ht hS hg hcm hcs htk hn hB
        go_wp2
        refine bodyPost_ret (results_mdef rfl _ _ C (lset4 HB.out _ _ _ _) rfl) rfl ?_
        have h4 := lonly4 (w := w1) (B := C) (.string fm.nm) (.int .i64 (fm.i : Int)) (.int .i64 (fm.j : Int)) (.slice bo fm.b.length bc)
        refine ⟨bo, bc, rfl, ⟨S, ?_, fun b hb => ⟨(HQ.out.2.1 b hb).1, (HQ.out.2.1 b hb).2.2.only h4 (HQ.out.2.1 b hb).2.1⟩⟩, ON.out _ _ _ _⟩
        exact HQ.out.1.step (fun _ g => g) (fun a u hs hc => h4.cell hc (HQ.out.2.1 _ hs).2.1) (Nat.le_refl _)
  · rw [if_neg h0]
    have hE2 : (E != 0) = true := by simpa using h0
    clear h0
    go_enter Tryd.func16, Tryd.ntmps16
    go_wp2_with fail
    rw [← hW, ← hC]
    refine (show Calls Tryd.prog 24 _ _ _ from HP.out).mono ?_
    rintro e w1 ⟨ao, cap, p, rfl, g1⟩
    obtain ⟨b1, o1, on⟩ := HX.out w1 g1.out.2
    have HB : Hid (w1.heap[C]? = some (.cells #[.string ⟨#[]⟩, .int .i64 0, .int .i64 0, .slice none 0 0] 54)) := b1
    have c0 : w1.cell? ⟨C, 0, none⟩ = some (.string ⟨#[]⟩) := blk_cells b1 0
    have c1 : w1.cell? ⟨C, 1, none⟩ = some (.int .i64 0) := blk_cells b1 1
    have c2 : w1.cell? ⟨C, 2, none⟩ = some (.int .i64 0) := blk_cells b1 2
    have c3 : w1.cell? ⟨C, 3, none⟩ = some (.slice none 0 0) := blk_cells b1 3
    have f0 := blk_froz b1 0
    have f1 := blk_froz b1 1
    have f2 := blk_froz b1 2
    have f3 := blk_froz b1 3
    have ON : Hid (∀ x0 x1 x2 x3, Only (fun _ => False) w ((((w1.setCell ⟨C, 0, none⟩ x0).setCell ⟨C, 1, none⟩ x1).setCell ⟨C, 2, none⟩ x2).setCell ⟨C, 3, none⟩ x3)) := on
    clear HP g1 b1 o1 on HX HW hW hC
    go_wp2
    refine bodyPost_ret (results_mdef rfl _ _ C (lset4 HB.out _ _ _ _) rfl) rfl ?_
    exact ⟨rfl, ON.out _ _ _ _⟩
end Go.Proofs.YtmmggnmgimgdfaaDoor
namespace Go.Proofs.YtmmggnmgimgdfaaDoor
open Go.RowKit
set_option linter.unusedSimpArgs false
set_option linter.unusedVariables false
theorem wp_region_post {P : Program} {id : Nat} {ops : Array Oper} {b : Bool} {Q : Exit → Act → World → Prop} {a : Act} {w : World} (R : Act → World → Prop) (h1 : (Code.region id ops b).wp P (fun e a' w' => e = .normal ∧ R a' w') a w) (h2 : ∀ a' w', R a' w' → Q .normal a' w') : (Code.region id ops b).wp P Q a w := by
  intro b' k cs
  obtain ⟨e, a', w', ⟨rfl, hr⟩, harr⟩ := h1 b' k cs
  exact ⟨_, a', w', h2 _ _ hr, harr⟩
theorem VrAt.only2 {w w' : World} {B d : Nat} {v : Value} {l : List Tre} {bs : Nat → Prop} (h : VrAt w B d v l) (o : Only bs w w') (hb : ∀ b, B ≤ b → b < w.heap.size → ¬ bs b) : VrAt w' B d v l := by
  obtain ⟨us, S, ho, ht, hS⟩ := h
  refine ⟨us, S, o.owns ho (fun k hk => hb k (ho.lt k hk).1 (ho.lt k hk).2), fun j x hx => ?_, fun b hbS => ?_⟩
  · obtain ⟨lx, hu, h2⟩ := ht j x hx
    exact ⟨lx, hu, h2.step (fun _ g => g) (fun a u hs hc => o.cell hc (hb _ (hS _ hs).1 (hS _ hs).2.1)) (Nat.le_refl _)⟩
  · obtain ⟨h1, h2, h3⟩ := hS b hbS
    exact ⟨h1, Nat.lt_of_lt_of_le h2 o.size, h3⟩
theorem wpList_append_run {P : Program} {op : Oper} {a : Act} {w w' : World} {Q : Exit → Act → World → Prop} {ops : Array Oper} {rest : List Oper} (hgd : op.guard = none) (s x : Operand) (t : TypeId) (ho : op.op = .call { callee := .builtin .append, args := #[s, x], argTypes := #[t, t] }) (v1 v2 v' : Value) (hs : a.eval s = v1) (hx : a.eval x = v2)
    (hr : ∀ ty, (Builtin.append_ #[t, t] ty #[v1, v2]).run P w = .ok v' w') (h : wpList P ops Q rest (a.put op.dst v') w') : wpList P ops Q (op :: rest) a w :=
  wpList_plain hgd fun _ hK => wp_append_run s x t ho v1 v2 v' hs hx (hr _) (hK _ _ h)
theorem only9 {w W : World} {B : Nat} (h : Only (fun _ => False) w W) (hB : w.heap.size ≤ B) (x0 x1 x2 x3 x4 x5 x6 x7 x8 : Value) : Only (fun _ => False) w (((((((((W.setCell ⟨B, 0, none⟩ x0).setCell ⟨B, 1, none⟩ x1).setCell ⟨B, 2, none⟩ x2).setCell ⟨B, 3, none⟩ x3).setCell ⟨B, 4, none⟩ x4).setCell ⟨B, 5, none⟩ x5).setCell ⟨B, 6, none⟩ x6).setCell ⟨B, 7, none⟩ x7).setCell ⟨B, 8, none⟩ x8) :=
  (((((((((h.setCell ⟨B, 0, none⟩ x0 (fun g => absurd g (by simp only; omega))).setCell ⟨B, 1, none⟩ x1 (fun g => absurd g (by simp only; omega))).setCell ⟨B, 2, none⟩ x2 (fun g => absurd g (by simp only; omega))).setCell ⟨B, 3, none⟩ x3 (fun g => absurd g (by simp only; omega))).setCell ⟨B, 4, none⟩ x4 (fun g => absurd g (by simp only; omega))).setCell ⟨B, 5, none⟩ x5 (fun g => absurd g (by simp only; omega))).setCell ⟨B, 6, none⟩ x6 (fun g => absurd g (by simp only; omega))).setCell ⟨B, 7, none⟩ x7 (fun g => absurd g (by simp only; omega))).setCell ⟨B, 8, none⟩ x8 (fun g => absurd g (by simp only; omega)))
end Go.Proofs.YtmmggnmgimgdfaaDoor
namespace Go.Proofs.YtmmggnmgimgdfaaDoor
open Go.RowKit
set_option linter.unusedSimpArgs false
set_option linter.unusedVariables false
/-- the parts of one tree, twice -/
def SaC (d : Nat) : Prop := ∀ (t : Tre) (la lb : Value) (w : World) (S S' : Nat → Prop), VtAt w S d t la → VtAt w S' d t lb → (∃ e, WfT e t) → Calls Tryd.prog 17 #[la, lb] w fun e w' => e = .returned (.bool true) ∧ Only (fun _ => False) w w'
/-- one tree, twice -/
def SmC (d : Nat) : Prop := ∀ (t : Tre) (la lb : Value) (w : World) (S S' : Nat → Prop), VtAt w S d t la → VtAt w S' d t lb → (∃ e, WfT e t) → Calls Tryd.prog 25 #[.agg #[.int .i64 (t.k : Int), .int .i64 (vn t), .string (vs t), la], .agg #[.int .i64 (t.k : Int), .int .i64 (vn t), .string (vs t), lb]] w fun e w' => e = .returned (.bool true) ∧ Only (fun _ => False) w w'
theorem VtAt.form {w : World} {S : Nat → Prop} {d : Nat} {t : Tre} {lv : Value} (h : VtAt w S d t lv) : ∃ ao cap, lv = .slice ao t.l.length cap := by
  cases d with
  | zero => exact h.elim
  | succ d => obtain ⟨ao, cap, hv, _⟩ := h; exact ⟨ao, cap, hv⟩
set_option maxRecDepth 100000 in
set_option maxHeartbeats 4000000 in
theorem same_walk (x0 x1 : Int) (x2 : ByteArray) (a1 a2 : Option Addr) (L c1 c2 : Nat) (w : World) (HC0 : ∀ w1, Only (fun _ => False) w w1 → Calls Tryd.prog 17 #[.slice a1 L c1, .slice a2 L c2] w1 fun e w' => e = .returned (.bool true) ∧ Only (fun _ => False) w1 w') :
    Calls Tryd.prog 25 #[.agg #[.int .i64 x0, .int .i64 x1, .string x2, .slice a1 L c1], .agg #[.int .i64 x0, .int .i64 x1, .string x2, .slice a2 L c2]] w fun e w' => e = .returned (.bool true) ∧ Only (fun _ => False) w w' := by
  have HC : Hid (∀ w1, Only (fun _ => False) w w1 → Calls Tryd.prog 17 #[.slice a1 L c1, .slice a2 L c2] w1 fun e w' => e = .returned (.bool true) ∧ Only (fun _ => False) w1 w') := HC0
  have O0 : Hid (Only (fun _ => False) w w) := Only.refl _ _
  clear HC0
  go_enter Tryd.func25, Tryd.ntmps25
  go_wp2_with fail
  all_goals
    refine (show Calls Tryd.prog 17 _ _ _ from HC.out _ ((O0.out.alloc _).alloc _)).mono ?_
    rintro e w1 ⟨rfl, o1⟩
    have O1 : Hid (Only (fun _ => False) w w1) := ((O0.out.alloc _).alloc _).trans o1 (fun _ _ g => g)
    clear HC o1
    go_wp2
    go_ret
    exact ⟨rfl, O1.out⟩
theorem same_of (d : Nat) (H : SaC d) : SmC d := by
  intro t la lb w S S' h1 h2 hw
  obtain ⟨a1, c1, rfl⟩ := h1.form
  obtain ⟨a2, c2, rfl⟩ := h2.form
  exact same_walk _ _ _ a1 a2 t.l.length c1 c2 w fun w1 o1 => H t _ _ w1 S S' (h1.step (fun _ g => g) (fun a u _ hc => o1.cell hc (fun g => g)) (Nat.le_refl _)) (h2.step (fun _ g => g) (fun a u _ hc => o1.cell hc (fun g => g)) (Nat.le_refl _)) hw
set_option maxRecDepth 100000 in
set_option maxHeartbeats 40000000 in
theorem sameall_of (d : Nat) (H : SmC d) : SaC (d + 1) := by
  intro t la lb w S S' h1 h2 hw
  obtain ⟨aa, ca, rfl, hca, ha⟩ := h1
  obtain ⟨ab, cb, rfl, hcb, hb⟩ := h2
  obtain ⟨e, hw⟩ := hw
  cases e with
  | zero => exact hw.elim
  | succ e =>
    have HE : Hid (∀ (j : Nat) (x : Tre), t.l[j]? = some x → ∃ g k lx g' k' lx', aa = some ⟨g, k, none⟩ ∧ ab = some ⟨g', k', none⟩ ∧ (w.cell? ⟨g, k + j * 4, none⟩ = some (.int .i64 (x.k : Int)) ∧ w.cell? ⟨g, k + j * 4 + 1, none⟩ = some (.int .i64 (vn x)) ∧ w.cell? ⟨g, k + j * 4 + 2, none⟩ = some (.string (vs x)) ∧ w.cell? ⟨g, k + j * 4 + 3, none⟩ = some lx) ∧ (w.cell? ⟨g', k' + j * 4, none⟩ = some (.int .i64 (x.k : Int)) ∧ w.cell? ⟨g', k' + j * 4 + 1, none⟩ = some (.int .i64 (vn x)) ∧ w.cell? ⟨g', k' + j * 4 + 2, none⟩ = some (.string (vs x)) ∧ w.cell? ⟨g', k' + j * 4 + 3, none⟩ = some lx') ∧ ∀ w1, Only (fun _ => False) w w1 → Calls Tryd.prog 25 #[.agg #[.int .i64 (x.k : Int), .int .i64 (vn x), .string (vs x), lx], .agg #[.int .i64 (x.k : Int), .int .i64 (vn x), .string (vs x), lx']] w1 fun e w' => e = .returned (.bool true) ∧ Only (fun _ => False) w1 w') := by
      intro j x hx
      obtain ⟨g, k, lx, p1, p2, p3, p4⟩ := ha j x hx
      obtain ⟨g', k', lx', q1, q2, q3, q4⟩ := hb j x hx
      exact ⟨g, k, lx, g', k', lx', p1, q1, p3, q3, fun w1 o1 => H x lx lx' w1 S S' (p4.step (fun _ g => g) (fun a u _ hc => o1.cell hc (fun g => g)) (Nat.le_refl _)) (q4.step (fun _ g => g) (fun a u _ hc => o1.cell hc (fun g => g)) (Nat.le_refl _)) ⟨e, hw.2 x (List.mem_of_getElem? hx)⟩⟩
    have HLB : Hid (t.l.length ≤ 4096) := hw.1
    clear ha hb hw H hca hcb
    obtain ⟨N, hN⟩ : ∃ N, N = t.l.length := ⟨_, rfl⟩
    have HNN : Hid (N = t.l.length) := hN
    rw [← hN]
    clear hN
    go_enter Tryd.func17, Tryd.ntmps17
    go_wp2
    go_loopw [5] (fun r5 wr => ∃ i : Nat, r5 = .int .i64 (i : Int) ∧ i ≤ N ∧ Hid (Only (fun _ => False) w wr)) (fun r5 _ => N - uOf r5)
    case atStart => exact ⟨0, rfl, Nat.zero_le _, Only.refl _ _⟩
    case round =>
      obtain ⟨i, rfl, hi, HI⟩ := hrel
      obtain ⟨w1, rfl⟩ : ∃ w1, w1 = wr := ⟨_, rfl⟩
      have hNl : N = t.l.length := HNN.out
      have hN4 : t.l.length ≤ 4096 := HLB.out
      by_cases hiN : i < N
      · obtain ⟨x, hx⟩ : ∃ x, t.l[i]? = some x := ⟨t.l[i]'(by omega), List.getElem?_eq_getElem (by omega)⟩
        obtain ⟨g, k, lx, g', k', lx', rfl, rfl, ⟨h0, h1, h2, h3⟩, ⟨h4, h5, h6, h7⟩, hcall⟩ := HE.out i x hx
        have o1 := HI.out
        have HS : Hid (∀ w', Only (fun _ => False) w1 w' → (w'.cell? ⟨g, k + i * 4, none⟩ = some (.int .i64 (x.k : Int)) ∧ w'.cell? ⟨g, k + i * 4 + 1, none⟩ = some (.int .i64 (vn x)) ∧ w'.cell? ⟨g, k + i * 4 + 2, none⟩ = some (.string (vs x)) ∧ w'.cell? ⟨g, k + i * 4 + 3, none⟩ = some lx) ∧ (w'.cell? ⟨g', k' + i * 4, none⟩ = some (.int .i64 (x.k : Int)) ∧ w'.cell? ⟨g', k' + i * 4 + 1, none⟩ = some (.int .i64 (vn x)) ∧ w'.cell? ⟨g', k' + i * 4 + 2, none⟩ = some (.string (vs x)) ∧ w'.cell? ⟨g', k' + i * 4 + 3, none⟩ = some lx')) := fun w' o => by
          have oo := o1.trans o (fun _ _ g => g)
          exact ⟨⟨oo.cell h0 (fun g => g), oo.cell h1 (fun g => g), oo.cell h2 (fun g => g), oo.cell h3 (fun g => g)⟩, ⟨oo.cell h4 (fun g => g), oo.cell h5 (fun g => g), oo.cell h6 (fun g => g), oo.cell h7 (fun g => g)⟩⟩
        have HCC : Hid (∀ w1, Only (fun _ => False) w w1 → Calls Tryd.prog 25 #[.agg #[.int .i64 (x.k : Int), .int .i64 (vn x), .string (vs x), lx], .agg #[.int .i64 (x.k : Int), .int .i64 (vn x), .string (vs x), lx']] w1 fun e w' => e = .returned (.bool true) ∧ Only (fun _ => False) w1 w') := hcall
        obtain ⟨⟨c0, c1, c2, c3⟩, ⟨c4, c5, c6, c7⟩⟩ := HS.out w1 (Only.refl _ _)
        have HB : Hid (i < N ∧ N ≤ 4096) := ⟨hiN, by omega⟩
        have i1 : (i : Int) < (N : Int) := by omega
        have i0 : (0 : Int) ≤ (i : Int) := by omega
        have hi4 : i ≤ 4096 := by omega
        obtain ⟨x0, hx0⟩ : ∃ x0, x0 = (x.k : Int) := ⟨_, rfl⟩
        obtain ⟨x1, hx1⟩ : ∃ x1, x1 = vn x := ⟨_, rfl⟩
        obtain ⟨x2, hx2⟩ : ∃ x2, x2 = vs x := ⟨_, rfl⟩
        rw [← hx0, ← hx1, ← hx2] at HCC HS
        rw [← hx0] at c0 c4
        rw [← hx1] at c1 c5
        rw [← hx2] at c2 c6
        clear hx0 hx1 hx2 HE h0 h1 h2 h3 h4 h5 h6 h7 hcall o1 hx hNl hN4 hi hiN
        go_wp2_with fail
        have OR : Hid (Only (fun _ => False) w1 w1) := Only.refl _ _
        go_region_held3 (fun w' => (w'.cell? ⟨g, k + i * 4, none⟩ = some (.int .i64 x0) ∧ w'.cell? ⟨g, k + i * 4 + 1, none⟩ = some (.int .i64 x1) ∧ w'.cell? ⟨g, k + i * 4 + 2, none⟩ = some (.string x2) ∧ w'.cell? ⟨g, k + i * 4 + 3, none⟩ = some lx) ∧ (w'.cell? ⟨g', k' + i * 4, none⟩ = some (.int .i64 x0) ∧ w'.cell? ⟨g', k' + i * 4 + 1, none⟩ = some (.int .i64 x1) ∧ w'.cell? ⟨g', k' + i * 4 + 2, none⟩ = some (.string x2) ∧ w'.cell? ⟨g', k' + i * 4 + 3, none⟩ = some lx'))
          (first
            | with_reducible exact HS.out _ OR.out.drew
            | with_reducible exact HS.out _ O2.out)
          (first | (go_at_call 25; refine (show Calls Tryd.prog 25 _ _ _ from HCC.out _ HI.out.drew).mono ?_; rintro ex w2 ⟨rfl, o2⟩; have O2 : Hid (Only (fun _ => False) w1 w2) := OR.out.drew.trans o2 (fun _ _ g => g)))
        have HK : Hid (Only (fun _ => False) w w2) := HI.out.trans O2.out (fun _ _ g => g)
        clear HI O2 OR HS HCC c0 c1 c2 c3 c4 c5 c6 c7 o2
        go_wp2
        go_roundw
        case rel => exact ⟨i + 1, by go_num, by have := HB.out; omega, HK⟩
        case measure => simp only [uOf]; have := HB.out; omega
      · obtain rfl : i = N := by omega
        have i1 : ¬ (i : Int) < (i : Int) := by omega
        clear HE hNl hN4 hi hiN
        go_wp2
        go_ret
        exact ⟨rfl, HI.out⟩
theorem sameT_any : ∀ (d : Nat), SaC d ∧ SmC d
  | 0 => ⟨fun t la lb w S S' h => h.elim, fun t la lb w S S' h => h.elim⟩
  | d + 1 => ⟨sameall_of d (sameT_any d).2, same_of (d + 1) (sameall_of d (sameT_any d).2)⟩
end Go.Proofs.YtmmggnmgimgdfaaDoor
namespace Go.Proofs.YtmmggnmgimgdfaaDoor
open Go.RowKit
set_option linter.unusedSimpArgs false
set_option linter.unusedVariables false
set_option maxRecDepth 100000 in
set_option maxHeartbeats 4000000 in
theorem samedef_walk (nm : ByteArray) (x y : Int) (a1 a2 : Option Addr) (L c1 c2 : Nat) (w : World) (HC0 : ∀ w1, Only (fun _ => False) w w1 → Calls Tryd.prog 17 #[.slice a1 L c1, .slice a2 L c2] w1 fun e w' => e = .returned (.bool true) ∧ Only (fun _ => False) w1 w') :
    Calls Tryd.prog 11 #[.agg #[.string nm, .int .i64 x, .int .i64 y, .slice a1 L c1], .agg #[.string nm, .int .i64 x, .int .i64 y, .slice a2 L c2]] w fun e w' => e = .returned (.bool true) ∧ Only (fun _ => False) w w' := by
  have HC : Hid (∀ w1, Only (fun _ => False) w w1 → Calls Tryd.prog 17 #[.slice a1 L c1, .slice a2 L c2] w1 fun e w' => e = .returned (.bool true) ∧ Only (fun _ => False) w1 w') := HC0
  have O0 : Hid (Only (fun _ => False) w w) := Only.refl _ _
  clear HC0
  go_enter Tryd.func11, Tryd.ntmps11
  go_wp2_with fail
  refine (show Calls Tryd.prog 17 _ _ _ from HC.out _ ((O0.out.alloc _).alloc _)).mono ?_
  rintro e w1 ⟨rfl, o1⟩
  have O1 : Hid (Only (fun _ => False) w w1) := ((O0.out.alloc _).alloc _).trans o1 (fun _ _ g => g)
  clear HC o1
  go_wp2
  go_ret
  exact ⟨rfl, O1.out⟩
/-- a slice of the document's forms that can be read -/
def VfQ (w : World) (S : Nat → Prop) (d : Nat) (v : Value) (l : List Fm) : Prop :=
  ∃ ao cap, v = .slice ao l.length cap ∧ ∀ (j : Nat) (fm : Fm), l[j]? = some fm → ∃ g k bl il, ao = some ⟨g, k, none⟩ ∧ (∀ i u, (fC fm bl il)[i]? = some u → w.cell? ⟨g, k + j * 9 + i, none⟩ = some u) ∧ VtAt w S d (bdT fm) bl ∧ VtAt w S d fm.it il
theorem VfQ.only {w w' : World} {S : Nat → Prop} {d : Nat} {v : Value} {l : List Fm} (h : VfQ w S d v l) (o : Only (fun _ => False) w w') : VfQ w' S d v l := by
  obtain ⟨ao, cap, hv, hl⟩ := h
  refine ⟨ao, cap, hv, fun j fm hj => ?_⟩
  obtain ⟨g, k, bl, il, ha, h0, h1, h2⟩ := hl j fm hj
  exact ⟨g, k, bl, il, ha, fun i u hu => o.cell (h0 i u hu) (fun g => g), h1.step (fun _ g => g) (fun a u _ hc => o.cell hc (fun g => g)) (Nat.le_refl _), h2.step (fun _ g => g) (fun a u _ hc => o.cell hc (fun g => g)) (Nat.le_refl _)⟩
end Go.Proofs.YtmmggnmgimgdfaaDoor
namespace Go.Proofs.YtmmggnmgimgdfaaDoor
open Go.RowKit
set_option linter.unusedSimpArgs false
set_option linter.unusedVariables false
/-- what is said of a block that an element leads to, and stays true -/
structure Bk (K : World → Nat → Prop) : Prop where
  lt : ∀ {w b}, K w b → b < w.heap.size
  only : ∀ {w w' : World} {bs : Nat → Prop} {b : Nat}, K w b → Only bs w w' → ¬ bs b → K w' b
  of : ∀ {w : World} {b : Nat} {c : Array Value} {t : TypeId}, w.heap[b]? = some (.cells c t) → K w b
theorem bk_liv : Bk Liv := ⟨fun h => h.1, fun h o hb => h.only o hb, fun h => Liv.of h⟩
def Ltb (w : World) (b : Nat) : Prop := b < w.heap.size
theorem bk_lt : Bk Ltb := ⟨fun h => h, fun h o _ => Nat.lt_of_lt_of_le h o.size, fun h => (Array.getElem?_eq_some_iff.1 h).1⟩
/-- what is said of an element's cells, whatever else turns -/
structure El {α : Type} (z : Nat) (P : World → (Nat → Prop) → α → List Value → Prop) : Prop where
  step : ∀ {w w' S S' x cs}, (∀ b, S b → S' b) → (∀ (a : Addr) u, S a.block → w.cell? a = some u → w'.cell? a = some u) → P w S x cs → P w' S' x cs
  len : ∀ {w S x cs}, P w S x cs → cs.length = z
  one : ∀ {w S x cs}, P w S x cs → ∀ u ∈ cs, u.oneCell' = true
section
variable {α : Type} {K : World → Nat → Prop} {z : Nat} {P : World → (Nat → Prop) → α → List Value → Prop}
/-- a row under way, made since block B -/
def GrAt (K : World → Nat → Prop) (T : TypeId) (z : Nat) (P : World → (Nat → Prop) → α → List Value → Prop) (w : World) (B : Nat) (v : Value) (l : List α) : Prop :=
  ∃ us S, w.ownsRow B T z v l.length us ∧ (∀ (j : Nat) (x : α), l[j]? = some x → ∃ cs, (∀ i u, cs[i]? = some u → us[j * z + i]? = some u) ∧ P w S x cs) ∧ ∀ b, S b → B ≤ b ∧ K w b ∧ v.ownBlock ≠ some b
/-- an element that was made since block B -/
def GnAt (K : World → Nat → Prop) (P : World → (Nat → Prop) → α → List Value → Prop) (w : World) (B : Nat) (x : α) (cs : List Value) : Prop := ∃ S, P w S x cs ∧ ∀ b, S b → B ≤ b ∧ K w b
/-- a row that can be read, within the blocks S -/
def GvAt (z : Nat) (P : World → (Nat → Prop) → α → List Value → Prop) (w : World) (S : Nat → Prop) (v : Value) (l : List α) : Prop :=
  ∃ ao cap, v = .slice ao l.length cap ∧ l.length ≤ cap ∧ ∀ (j : Nat) (x : α), l[j]? = some x → ∃ g cs, ao = some ⟨g, 0, none⟩ ∧ S g ∧ (∀ i u, cs[i]? = some u → w.cell? ⟨g, j * z + i, none⟩ = some u) ∧ P w S x cs
theorem gr_nil (K : World → Nat → Prop) (T : TypeId) (z : Nat) (P : World → (Nat → Prop) → α → List Value → Prop) (w : World) (B : Nat) : GrAt K T z P w B (.slice none 0 0) [] :=
  ⟨[], fun _ => False, ⟨by simp, .inl ⟨rfl, rfl⟩⟩, fun j x h => by simp at h, fun b h => h.elim⟩
theorem GrAt.form {T : TypeId} {w : World} {B : Nat} {v : Value} {l : List α} (h : GrAt K T z P w B v l) : ∃ ao cap, v = .slice ao l.length cap := by
  obtain ⟨us, S, ho, _⟩ := h
  rcases ho.2 with ⟨h1, h2⟩ | ⟨g, cap, cur, h1, _⟩
  · exact ⟨_, _, by rw [h1, h2]⟩
  · exact ⟨_, _, h1⟩
theorem GrAt.lt {T : TypeId} {w : World} {B : Nat} {v : Value} {l : List α} (h : GrAt K T z P w B v l) : ∀ k, v.ownBlock = some k → B ≤ k ∧ k < w.heap.size := by
  obtain ⟨us, S, ho, _⟩ := h
  exact fun k hk => ho.lt k hk
theorem GrAt.only (hK : Bk K) (hP : El z P) {T : TypeId} {w w' : World} {B : Nat} {v : Value} {l : List α} {bs : Nat → Prop} (h : GrAt K T z P w B v l) (o : Only bs w w') (hb : ∀ b, B ≤ b → b < w.heap.size → ¬ bs b) : GrAt K T z P w' B v l := by
  obtain ⟨us, S, ho, ht, hS⟩ := h
  refine ⟨us, S, o.owns ho (fun k hk => hb k (ho.lt k hk).1 (ho.lt k hk).2), fun j x hx => ?_, fun b hbS => ?_⟩
  · obtain ⟨cs, hu, h2⟩ := ht j x hx
    exact ⟨cs, hu, hP.step (fun _ g => g) (fun a u hs hc => o.cell hc (hb _ (hS _ hs).1 (hK.lt (hS _ hs).2.1))) h2⟩
  · obtain ⟨h1, h2, h3⟩ := hS b hbS
    exact ⟨h1, hK.only h2 o (hb b h1 (hK.lt h2)), h3⟩
theorem GnAt.only (hK : Bk K) (hP : El z P) {w w' : World} {B : Nat} {x : α} {cs : List Value} {bs : Nat → Prop} (h : GnAt K P w B x cs) (o : Only bs w w') (hb : ∀ b, B ≤ b → b < w.heap.size → ¬ bs b) : GnAt K P w' B x cs := by
  obtain ⟨S, h1, hS⟩ := h
  exact ⟨S, hP.step (fun _ g => g) (fun a u hs hc => o.cell hc (hb _ (hS _ hs).1 (hK.lt (hS _ hs).2))) h1, fun b hbS => ⟨(hS b hbS).1, hK.only (hS b hbS).2 o (hb b (hS b hbS).1 (hK.lt (hS b hbS).2))⟩⟩
theorem GrAt.lower {T : TypeId} {w : World} {B C : Nat} {v : Value} {l : List α} (h : GrAt K T z P w B v l) (hC : C ≤ B) : GrAt K T z P w C v l := by
  obtain ⟨us, S, ho, ht, hS⟩ := h
  refine ⟨us, S, ⟨ho.1, ?_⟩, ht, fun b hb => ⟨Nat.le_trans hC (hS b hb).1, (hS b hb).2⟩⟩
  rcases ho.2 with g | ⟨g, cap, cur, h1, h2, h3⟩
  · exact .inl g
  · exact .inr ⟨g, cap, cur, h1, by omega, h3⟩
theorem GrAt.read (hK : Bk K) (hP : El z P) {T : TypeId} {w : World} {B : Nat} {v : Value} {l : List α} (h : GrAt K T z P w B v l) : ∃ S, GvAt z P w S v l ∧ ∀ b, S b → B ≤ b ∧ K w b := by
  obtain ⟨us, S, ho, ht, hS⟩ := h
  refine ⟨fun b => S b ∨ v.ownBlock = some b, ?_, fun b hb => ?_⟩
  · rcases ho.2 with ⟨rfl, h2⟩ | ⟨g, cap, cur, hv, hB, hg, hn, hcm, hcs, htk⟩
    · have hl : l = [] := List.eq_nil_of_length_eq_zero h2
      subst hl
      exact ⟨none, 0, rfl, Nat.zero_le _, fun i x hx => by simp at hx⟩
    · refine ⟨some ⟨g, 0, none⟩, cap, hv, hn, fun j x hx => ?_⟩
      obtain ⟨cs, h1, h2⟩ := ht j x hx
      refine ⟨g, cs, rfl, .inr (by rw [hv]; rfl), fun i u hu => ?_, hP.step (fun _ g => .inl g) (fun _ _ _ g => g) h2⟩
      have hc := ho.cells (g := g) (by rw [hv]; rfl) _ u (h1 i u hu)
      rwa [addr_ad] at hc
  · rcases hb with h | h
    · exact ⟨(hS b h).1, (hS b h).2.1⟩
    · refine ⟨(ho.lt b h).1, ?_⟩
      rcases ho.2 with ⟨rfl, h2⟩ | ⟨g, cap, cur, hv, hB, hg, hn, hcm, hcs, htk⟩
      · cases h
      · rw [hv] at h
        injection h with h
        rw [← h]
        exact hK.of hg
theorem GvAt.step (hP : El z P) {w w' : World} {S S' : Nat → Prop} {v : Value} {l : List α} (hS : ∀ b, S b → S' b) (hk : ∀ (a : Addr) u, S a.block → w.cell? a = some u → w'.cell? a = some u) (h : GvAt z P w S v l) : GvAt z P w' S' v l := by
  obtain ⟨ao, cap, hv, hc, hl⟩ := h
  refine ⟨ao, cap, hv, hc, fun j x hx => ?_⟩
  obtain ⟨g, cs, h1, h2, h3, h4⟩ := hl j x hx
  exact ⟨g, cs, h1, hS g h2, fun i u hu => hk _ _ h2 (h3 i u hu), hP.step hS hk h4⟩
theorem GvAt.only (hP : El z P) {w w' : World} {S bs : Nat → Prop} {v : Value} {l : List α} (h : GvAt z P w S v l) (o : Only bs w w') (hb : ∀ b, S b → ¬ bs b) : GvAt z P w' S v l := GvAt.step hP (fun _ g => g) (fun a u hs hc => o.cell hc (hb _ hs)) h
theorem GvAt.form {w : World} {S : Nat → Prop} {v : Value} {l : List α} (h : GvAt z P w S v l) : ∃ ao cap, v = .slice ao l.length cap := by
  obtain ⟨ao, cap, hv, _⟩ := h
  exact ⟨ao, cap, hv⟩
/-- an element is put behind a row -/
theorem GrAt.snoc (hK : Bk K) (hP : El z P) {T : TypeId} {w w' : World} {B C : Nat} {v v' : Value} {l : List α} {x : α} {cs us : List Value} {S : Nat → Prop} (hg : w.grownBy w' v.ownBlock) (ho : w.ownsRow B T z v l.length us) (ht : ∀ (j : Nat) (x : α), l[j]? = some x → ∃ cs, (∀ i u, cs[i]? = some u → us[j * z + i]? = some u) ∧ P w S x cs) (hS : ∀ b, S b → B ≤ b ∧ K w b ∧ v.ownBlock ≠ some b)
    (hn : GnAt K P w C x cs) (hC : B ≤ C) (hv : ∀ k, v.ownBlock = some k → k < C) (ho' : w'.ownsRow B T z v' (l.length + 1) (us ++ cs)) (hat : v'.ownBlock = v.ownBlock ∨ v'.ownBlock = some w.heap.size) : GrAt K T z P w' B v' (l ++ [x]) := by
  obtain ⟨S1, t1, s1⟩ := hn
  have oo : Only (fun k => v.ownBlock = some k) w w' := (Only.refl _ w).grown hg (fun k e _ => e)
  have a1 : ∀ b, S b → ¬ v.ownBlock = some b := fun b h => (hS b h).2.2
  have a2 : ∀ b, S1 b → ¬ v.ownBlock = some b := fun b h e => by have := hv b e; have := (s1 b h).1; omega
  have hl : us.length = l.length * z := ho.1
  refine ⟨us ++ cs, fun b => S b ∨ S1 b, by simpa using ho', fun j y hy => ?_, fun b hb => ?_⟩
  · by_cases hj : j < l.length
    · rw [List.getElem?_append_left hj] at hy
      obtain ⟨ds, h1, h2⟩ := ht j y hy
      refine ⟨ds, fun i u hu => ?_, hP.step (fun _ g => .inl g) (fun a y hs hc => oo.cell hc (a1 _ hs)) h2⟩
      have h3 := h1 i u hu
      rw [List.getElem?_append_left (List.getElem?_eq_some_iff.1 h3).1]
      exact h3
    · have hj2 : j < (l ++ [x]).length := (List.getElem?_eq_some_iff.1 hy).1
      have hj3 : j = l.length := by simp at hj2; omega
      subst hj3
      simp at hy
      subst hy
      refine ⟨cs, fun i u hu => ?_, hP.step (fun _ g => .inr g) (fun a y hs hc => oo.cell hc (a2 _ hs)) t1⟩
      rw [List.getElem?_append_right (by omega), show l.length * z + i - us.length = i by omega]
      exact hu
  · have h1 : B ≤ b ∧ K w b ∧ v.ownBlock ≠ some b := by
      rcases hb with h | h
      · exact hS b h
      · exact ⟨Nat.le_trans hC (s1 b h).1, (s1 b h).2, a2 b h⟩
    refine ⟨h1.1, hK.only h1.2.1 oo h1.2.2, ?_⟩
    rcases hat with e | e <;> rw [e]
    · exact h1.2.2
    · intro e2
      injection e2 with e2
      have := hK.lt h1.2.1
      omega
theorem gr_app (hK : Bk K) (hP : El z P) {T sT : TypeId} {by' : Nat} (hI : ∃ i zz, Tryd.prog.info? T = some i ∧ i.zero = some zz ∧ i.size = z ∧ i.bytes = by' ∧ zz.cells.size = z) (hT : Tryd.prog.underlying sT = some (.slice T)) (hz : 0 < z) (hby : by' ≤ 1000) {w : World} {B C : Nat} {v : Value} {acc : List α} {x : α} {cs : List Value}
    (hf : GrAt K T z P w B v acc) (hn : GnAt K P w C x cs) (hC : B ≤ C) (hv : ∀ k, v.ownBlock = some k → k < C) (hB : B ≤ w.heap.size) (hl : acc.length ≤ 1000000) :
    ∃ v' w', (∀ ty, (Builtin.append_ #[sT, sT] ty #[v, .slice (some ⟨w.heap.size, 0, none⟩) 1 1]).run Tryd.prog (w.alloc (.cells cs.toArray T)) = .ok v' w') ∧ GrAt K T z P w' B v' (acc ++ [x]) ∧ Only (fun k => v.ownBlock = some k) w w' ∧ ∀ k, v'.ownBlock = some k → k < w'.heap.size := by
  obtain ⟨i0, z0, hi, hz0, hz1, hz2, hz3⟩ := hI
  obtain ⟨W, hW⟩ : ∃ W, W = w.alloc (.cells cs.toArray T) := ⟨_, rfl⟩
  have oo : Only (fun _ => False) w W := by rw [hW]; exact (Only.refl _ w).alloc _
  have hf2 := hf.only hK hP oo (fun _ _ _ h => h)
  have hn2 := hn.only hK hP oo (fun _ _ _ h => h)
  have hblk : W.heap[w.heap.size]? = some (.cells cs.toArray T) := by rw [hW]; exact alloc_at _ _ _ rfl
  obtain ⟨us, S, ho, ht, hS⟩ := hf2
  obtain ⟨S1, h1, hs1⟩ := id hn2
  have key := fun ty => run_append_own_at (P := Tryd.prog) W B sT ty T i0 z0 z by' hT hi hz0 hz1 hz2 hz3 hz v acc.length us ho ⟨w.heap.size, 0, none⟩ 1 1 cs (by rw [hP.len h1]; omega) (by
      intro j u hj
      rw [addr_ad, blk_cells hblk]
      simpa using hj) (hP.one h1) (by unfold maxLen; omega) (by
      have : (acc.length + 1) * by' ≤ 1000001 * 1000 := Nat.mul_le_mul (by omega) hby
      omega) (by have := oo.size; omega)
  obtain ⟨v', w', hr, own', hg, _, hat⟩ := key 0
  refine ⟨v', w', fun ty => ?_, GrAt.snoc hK hP hg ho ht hS hn2 hC hv own' hat, (oo.mono (bs' := fun k => v.ownBlock = some k) (fun _ _ h => h.elim)).trans ((Only.refl (fun k => v.ownBlock = some k) W).grown hg (fun k e _ => e)) (fun k hk e => e), fun k hk => (own'.lt k hk).2⟩
  rw [← hW, ← hr]
  rfl
end
/-- texts within the blocks S -/
def UsV (w : World) (S : Nat → Prop) (v : Value) (us : List ByteArray) : Prop := (us = [] ∧ v = .slice none 0 0) ∨ ∃ g cap, v = .slice (some ⟨g, 0, none⟩) us.length cap ∧ us.length ≤ cap ∧ S g ∧ ∀ (j : Nat) (x : ByteArray), us[j]? = some x → w.cell? ⟨g, j, none⟩ = some (.string x)
theorem UsV.step {w w' : World} {S S' : Nat → Prop} {v : Value} {us : List ByteArray} (hS : ∀ b, S b → S' b) (hk : ∀ (a : Addr) u, S a.block → w.cell? a = some u → w'.cell? a = some u) (h : UsV w S v us) : UsV w' S' v us := by
  rcases h with h | ⟨g, cap, hv, hc, hs, hl⟩
  · exact .inl h
  · exact .inr ⟨g, cap, hv, hc, hS g hs, fun j x hx => hk _ _ hs (hl j x hx)⟩
theorem UsV.form {w : World} {S : Nat → Prop} {v : Value} {us : List ByteArray} (h : UsV w S v us) : ∃ a c, v = .slice a us.length c := by
  rcases h with ⟨rfl, rfl⟩ | ⟨g, cap, rfl, _⟩
  · exact ⟨none, 0, rfl⟩
  · exact ⟨_, _, rfl⟩
/-- a definition's cells -/
def DcP (w : World) (S : Nat → Prop) (fm : Fm) (cs : List Value) : Prop := ∃ bo bc, cs = [.string fm.nm, .int .i64 (fm.i : Int), .int .i64 (fm.j : Int), .slice bo fm.b.length bc] ∧ SqAt w S 12400 true (.slice bo fm.b.length bc) fm.b
theorem el_dc : El 4 DcP where
  step := fun hS hk h => by
    obtain ⟨bo, bc, h1, h2⟩ := h
    exact ⟨bo, bc, h1, h2.step hS hk (Nat.le_refl _)⟩
  len := fun h => by
    obtain ⟨bo, bc, h1, h2⟩ := h
    rw [h1]; rfl
  one := fun h u hu => by
    obtain ⟨bo, bc, h1, h2⟩ := h
    rw [h1] at hu
    simp only [List.mem_cons, List.not_mem_nil, or_false] at hu
    rcases hu with rfl | rfl | rfl | rfl <;> rfl
/-- a vocabulary's cells -/
def McP (w : World) (S : Nat → Prop) (m : Mf) (cs : List Value) : Prop := ∃ uv dv, cs = [.string m.nm, uv, dv] ∧ UsV w S uv m.us ∧ GvAt 4 DcP w S dv m.ds
theorem el_mc : El 3 McP where
  step := fun hS hk h => by
    obtain ⟨uv, dv, h1, h2, h3⟩ := h
    exact ⟨uv, dv, h1, h2.step hS hk, h3.step el_dc hS hk⟩
  len := fun h => by
    obtain ⟨uv, dv, h1, h2⟩ := h
    rw [h1]; rfl
  one := fun h u hu => by
    obtain ⟨uv, dv, h1, h2, ⟨a2, c2, rfl, _⟩⟩ := h
    obtain ⟨a1, c1, rfl⟩ := h2.form
    rw [h1] at hu
    simp only [List.mem_cons, List.not_mem_nil, or_false] at hu
    rcases hu with rfl | rfl | rfl <;> rfl
set_option maxRecDepth 100000 in
theorem dc_info : ∃ i z, Tryd.prog.info? 54 = some i ∧ i.zero = some z ∧ i.size = 4 ∧ i.bytes = 56 ∧ z.cells.size = 4 := ⟨_, _, rfl, rfl, rfl, rfl, rfl⟩
set_option maxRecDepth 100000 in
theorem mc_info : ∃ i z, Tryd.prog.info? 34 = some i ∧ i.zero = some z ∧ i.size = 3 ∧ i.bytes = 64 ∧ z.cells.size = 3 := ⟨_, _, rfl, rfl, rfl, rfl, rfl⟩
end Go.Proofs.YtmmggnmgimgdfaaDoor
