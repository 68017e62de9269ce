import Derived.Test.YtlcglapcmdpkfaaGreatV1
namespace Go.Proofs.YtlcglapcmdpkfaaGreat
open Go.RowKit
set_option linter.unusedSimpArgs false
set_option linter.unusedVariables false
attribute [local go_sem] Oper.semAt_some
theorem infoI : (Tryz.prog.info? 3).map (fun i => (i.zero, i.size, i.bytes)) = some (some (.int .i64 0), 1, 8) := by kernel_rfl
def PagesIs (zs : List Int) (w : World) (e : Ending) (w' : World) : Prop :=
 ∃ Bs Pb sv, e = .returned (.func (.func 118) #[] #[.pointer (some ⟨Bs, 0, none⟩)]) ∧ w'.cell? ⟨Bs, 0, none⟩ = some sv ∧ IntsIn w' Pb sv zs ∧ Pb < w'.heap.size ∧ Only (fun _ => False) w w'
theorem results_cell2 {fn : Func} {p u : Tmp} {t1 t2 : TypeId} (h : fn.results = #[.cell p t1, .cell u t2]) (tmps : Array Value) (P : Program) (w : World) :
  (results fn tmps).run P w = ((asAddr (tmps.getD p undef)).run P w).andThen fun a w₁ => ((loadVar t1 a).run P w₁).andThen fun v w₂ => ((asAddr (tmps.getD u undef)).run P w₂).andThen fun b w₃ => ((loadVar t2 b).run P w₃).andThen fun v' w₄ => .ok (.tuple #[v, v']) w₄ := by
 simp only [results, h]
 simp [Sem.run_bind, Result.andThen]
theorem load_ints (b : Nat) (v : Value) (w : World) (h : w.cell? ⟨b, 0, none⟩ = some v) : (loadVar 76 ⟨b, 0, none⟩).run Tryz.prog w = .ok v w := by go_simp
theorem load_bool (b : Nat) (v : Value) (w : World) (h : w.cell? ⟨b, 0, none⟩ = some v) : (loadVar 4 ⟨b, 0, none⟩).run Tryz.prog w = .ok v w := by go_simp
theorem func_not_nil (b : Nat) (w : World) : (binOp .eql 126 (.func (.func 118) #[] #[.pointer (some ⟨b, 0, none⟩)]) .nilFunc).run Tryz.prog w = .ok (.bool false) w := by kernel_rfl
set_option maxRecDepth 100000 in
set_option maxHeartbeats 2000000 in
theorem listed_core (zs : List Int) (hz : zs.length ≤ 728) (q : Option Addr) (w : World) (hP : ∀ w1, Only (fun _ => False) w w1 → CallsIn Fence.wide 5 Tryz.prog 77 #[.pointer q] w1 (PagesIs zs w1)) :
  CallsIn Fence.wide 6 Tryz.prog 49 #[.pointer q] w fun e w' => ∃ v, e = .returned (.tuple #[v, .bool true]) ∧ w'.ownsRow w.heap.size 3 1 v zs.length (zs.map (Value.int .i64)) ∧ Only (fun _ => False) w w' := by
 obtain ⟨i0, hi, hz0, hz1, hz2⟩ := info_parts infoI
 refine callsIn_of_wp_marks Tryz.func49 rfl trivial ?_ rfl
 simp only [Tryz.ntmps49, List.size_toArray, List.length_cons, List.length_nil, Nat.reduceAdd, Nat.reduceSub, Array.replicate_succ, Array.replicate_zero, List.push_toArray, List.append_toArray, List.nil_append, List.cons_append]
 gi_wp2_with fail
 have HPc := hP _ (((Only.refl (fun _ => False) w).alloc (.cells #[.slice none 0 0] 76)).alloc (.cells #[.bool false] 4))
 clear hP
 obtain ⟨wA, hwA⟩ : ∃ x, x = (w.alloc (.cells #[.slice none 0 0] 76)).alloc (.cells #[.bool false] 4) := ⟨_, rfl⟩
 have hA1 : wA.heap[w.heap.size]? = some (.cells #[.slice none 0 0] 76 (0, 0)) := by rw [hwA]; exact heap_alloc2_old w _ _
 have hA2 : wA.heap[w.heap.size + 1]? = some (.cells #[.bool false] 4 (0, 0)) := by rw [hwA]; exact heap_alloc2_new w _ _
 have oA : Only (fun _ => False) w wA := by rw [hwA]; exact ((Only.refl _ w).alloc _).alloc _
 have sA : wA.heap.size = w.heap.size + 2 := by rw [hwA]; simp
 rw [← hwA] at HPc ⊢
 clear hwA
 refine ⟨trivial, HPc.mono ?_⟩
 rintro e w2 ⟨Bs, Pb, lv, rfl, hb, hin, hPb, ho2⟩
 have s2 := ho2.size
 obtain ⟨wl, hwl⟩ : ∃ x, x = w2.alloc (.cells #[.slice none 0 0] 76) := ⟨_, rfl⟩
 have ol : Only (fun _ => False) w2 wl := by rw [hwl]; exact (Only.refl _ w2).alloc _
 have sl : wl.heap.size = w2.heap.size + 1 := by rw [hwl]; simp
 have bl : Boxed wl w2.heap.size 76 (.slice none 0 0) := by rw [hwl]; exact Boxed.new w2 _ _
 have hbl : wl.cell? ⟨Bs, 0, none⟩ = some lv := ol.cell hb (fun e => e)
 have hil : IntsIn wl Pb lv zs := by
  rcases hin with h | ⟨off, cap, h1, h2⟩
  ·exact .inl h
  ·exact .inr ⟨off, cap, h1, fun j hj => ol.cell (h2 j hj) (fun e => e)⟩
 have hl1 : wl.heap[w.heap.size]? = some (.cells #[.slice none 0 0] 76 (0, 0)) := by rw [ol.block _ (by omega) (fun e => e), ho2.block _ (by omega) (fun e => e)]; exact hA1
 have hl2 : wl.heap[w.heap.size + 1]? = some (.cells #[.bool false] 4 (0, 0)) := by rw [ol.block _ (by omega) (fun e => e), ho2.block _ (by omega) (fun e => e)]; exact hA2
 have owl : Only (fun _ => False) w wl := (oA.trans ho2 (fun _ _ e => e)).trans ol (fun _ _ e => e)
 have HW : Hid (wl = w2.alloc (.cells #[.slice none 0 0] 76)) := hwl
 have hn0 : w.heap.size + 2 ≤ w2.heap.size := by omega
 clear hwl HPc hA1 hA2 oA sA hb hin ho2 s2 ol
 have hnn := func_not_nil Bs
 gi_wp2
 clear hnn
 rw [← HW.out]
 refine wpIn_rangeFunc_ownG rfl (by omega) (gf := 118) (lb := #[.pointer (some ⟨Bs, 0, none⟩)]) rfl trivial (enters_of Tryz.func118 (by kernel_rfl) rfl)
  (values_stops 5 Bs Pb lv zs wl (by unfold maxLen; omega) hbl hil (by omega)) (fun h k => Eq.trans k h) ?hKb (Below.refl _ _) (fun _ => rfl)
  (fun pre W => (∃ v, Boxed W w2.heap.size 76 v ∧ W.ownsRow w2.heap.size 3 1 v pre.length (pre.map (Value.int .i64)) ∧ True) ∧ Below w2.heap.size wl W)
  (fun _ _ _ => False)
  (OwnFrom.and (Own.from (holdsRow_own w2.heap.size w2.heap.size 76 3 1 (fun pre : List Int => pre.length) (fun pre => pre.map (Value.int .i64)) (fun _ _ => True)) _) (ownFrom_below (by omega) (by omega)))
  (fun _ _ _ _ _ hs _ _ => hs)
  ⟨⟨_, bl, World.ownsRow_nil _ _ _ _, trivial⟩, Below.refl _ _⟩
  (fun x => { tmps := #[.pointer q, undef, .pointer (some ⟨w.heap.size, 0, none⟩), .pointer (some ⟨w.heap.size + 1, 0, none⟩), .func (.func 118) #[] #[.pointer (some ⟨Bs, 0, none⟩)], .pointer (some ⟨w2.heap.size, 0, none⟩), .int .i64 x, .pointer q, .func (.func 118) #[] #[.pointer (some ⟨Bs, 0, none⟩)], .func (.func 118) #[] #[.pointer (some ⟨Bs, 0, none⟩)], .bool false, .func (.func 118) #[] #[.pointer (some ⟨Bs, 0, none⟩)], .int .i64 x, undef, undef, undef, undef, undef, undef, undef, undef], defers := [] }) ?assign ?body ?done ?stop
 case hKb =>
  intro W l0 o o' hl0 hw0 ho1 ho2
  exact (grownBy_putObj' W l0 o').block Pb (by have := (Array.getElem?_eq_some_iff.1 hw0).1; omega) (fun e => by cases e; omega)
 case assign =>
  intro l0 x W K hK
  simp only [intEnc, List.zip_toArray, List.zip_cons_cons, List.zip_nil_right, List.foldl_toArray, List.foldl_cons, List.foldl_nil, List.setIfInBounds_toArray, List.set_cons_zero, List.set_cons_succ]
  gi_wp2
  exact hK
 case body =>
  rintro l0 pre x W ⟨⟨v, hv, hrow, _⟩, hB⟩ hlt
  have hc := hv.cell
  have hBs := hB.size
  have h728 : ¬ (728 : Int) < ((pre.length + 1 : Nat) : Int) := by omega
  gi_wp2_with (gi_at_builtin; refine wpListIn_append_own _ rfl _ _ 76 rfl w2.heap.size 3 i0 (.int .i64 0) 1 8 Tryz.underlying76 hi hz0 hz1 hz2 rfl (by decide) _ _ _ rfl (hrow.alloc _) ⟨W.heap.size, 0, none⟩ 1 1 [.int .i64 x] rfl rfl (cell_one_new _ _ _) (by simp [Value.oneCell']) (by unfold maxLen; omega) (by omega) (by simp; omega) ?_; intro v' w1 hown' hgrow _; obtain ⟨g', cap', rfl⟩ := ownsRow_succ hown'; obtain ⟨hv1, hv2, hr2, hk2, hb2⟩ := hv.appended (by decide) hrow (by omega) (Nat.le_refl _) hown' hgrow; have hc1 := hv1.cell; have hf1 := hv1.frozen; have hc2 := hv2.cell)
  exact ⟨hk2.from _, hb2.block Pb hPb, ⟨_, hv2, by simpa using hr2⟩, hB.trans hb2⟩
 case done =>
  rintro D ys W hD rfl ⟨⟨v, hv, hrow, _⟩, hB⟩ hK
  have hc := hv.cell
  have b1 : Boxed W w.heap.size 76 (.slice none 0 0) := (hB.block _ (by omega)).trans hl1
  have b2 : Boxed W (w.heap.size + 1) 4 (.bool false) := (hB.block _ (by omega)).trans hl2
  have c1 := b1.cell
  have f1 := b1.frozen
  obtain ⟨a, c, rfl⟩ := ownsRow_slice hrow
  have b3 : Boxed (W.setCell ⟨w.heap.size, 0, none⟩ (.slice a ys.length c)) (w.heap.size + 1) 4 (.bool false) := (Below.heap_setCell _ _ _ _ (by simp)).trans b2
  have c3 := b3.cell
  have f3 := b3.frozen
  gi_wp2
  obtain ⟨WF, hWF⟩ : ∃ x, x = (W.setCell ⟨w.heap.size, 0, none⟩ (.slice a ys.length c)).setCell ⟨w.heap.size + 1, 0, none⟩ (.bool true) := ⟨_, rfl⟩
  rw [← hWF]
  have e1 : Boxed WF w.heap.size 76 (.slice a ys.length c) := by rw [hWF]; exact (Below.heap_setCell _ _ _ _ (by simp)).trans (b1.set _)
  have e2 : Boxed WF (w.heap.size + 1) 4 (.bool true) := by rw [hWF]; exact b3.set _
  have hDW := (Array.getElem?_eq_some_iff.1 hK).1
  have hKF : WF.heap[D]? = some (.deferred (some [])) := by rw [hWF, Below.heap_setCell _ _ _ _ (by simp; omega), Below.heap_setCell _ _ _ _ (by simp; omega)]; exact hK
  have oF : Only (fun _ => False) w WF := by
   rw [hWF]
   refine (Only.setCell (Only.setCell ?_ _ _ (fun h => by simp at h)) _ _ (fun h => by simp at h; omega))
   exact owl.trans (Below.only hB) (fun k hk e => by omega)
  have hrF : WF.ownsRow w2.heap.size 3 1 (.slice a ys.length c) ys.length (ys.map (Value.int .i64)) := by
   have o1 : Only (fun k => k = w.heap.size ∨ k = w.heap.size + 1) W WF := by rw [hWF]; exact ((Only.refl _ W).setCell _ _ (fun _ => .inl rfl)).setCell _ _ (fun _ => .inr rfl)
   exact o1.owns hrow (fun k hk e => by have := (hrow.lt k hk).1; omega)
  clear hWF
  refine ⟨by simp, .inl ⟨_, _, rfl, run_takeDeferred hKF, ?_⟩⟩
  obtain ⟨WG, hWG⟩ : ∃ x, x = WF.putObj D (.deferred none) := ⟨_, rfl⟩
  have oG : Only (fun k => k = D) WF WG := by
   rw [hWG]
   exact (Only.refl _ WF).grown (grownBy_putObj' WF D _) (fun k e _ => by injection e with e; exact e.symm)
  rw [← hWG]
  have g1 := load_ints _ _ WG (oG.cell e1.cell (by simp; omega))
  have g2 := load_bool _ _ WG (oG.cell e2.cell (by simp; omega))
  refine ⟨.tuple #[.slice a ys.length c, .bool true], ?_, _, rfl, ?_, ?_⟩
  ·rw [results_cell2 rfl]
   change ((loadVar 76 ⟨w.heap.size, 0, none⟩).run Tryz.prog WG).andThen (fun v w₂ => ((loadVar 4 ⟨w.heap.size + 1, 0, none⟩).run Tryz.prog w₂).andThen fun v' w₄ => Result.ok (Value.tuple #[v, v']) w₄) = Result.ok (Value.tuple #[.slice a ys.length c, .bool true]) WG
   rw [g1]
   change ((loadVar 4 ⟨w.heap.size + 1, 0, none⟩).run Tryz.prog WG).andThen (fun v' w₄ => Result.ok (Value.tuple #[.slice a ys.length c, v']) w₄) = Result.ok (Value.tuple #[.slice a ys.length c, .bool true]) WG
   rw [g2]
   rfl
  ·refine ownsRow_base (oG.owns hrF (fun k hk e => ?_)) (by omega)
   subst e
   rcases hrF.2 with ⟨h1, _⟩ | ⟨g, cap, cur, h1, _, h2, _⟩
   ·rw [h1] at hk
    simp [Value.ownBlock] at hk
   ·rw [h1] at hk
    simp only [Value.ownBlock, Option.some.injEq] at hk
    subst hk
    rw [hKF] at h2
    cases h2
  ·exact oF.trans oG (fun k hk e => by omega)
 case stop =>
  rintro D c pre W _ _ h _
  exact h.elim
end Go.Proofs.YtlcglapcmdpkfaaGreat
