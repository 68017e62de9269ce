/-      -/
import Derived.Test.YtlcglapcmdpkfaaGreatGak
import Derived.Test.YtlcglapcmdpkfaaGreatGam
import Derived.Test.YtlcglapcmdpkfaaGreatGag
import Derived.Test.YtlcglapcmdpkfaaGreatGae
namespace Go.Proofs.YtlcglapcmdpkfaaGreat
open Go.RowKit
set_option linter.unusedSimpArgs false
set_option linter.unusedVariables false
set_option maxRecDepth 100000
set_option maxHeartbeats 16000000
attribute [local go_sem] Oper.semAt_some
theorem infoI : (Tryz.prog.info? 3).map (fun i => (i.zero, i.size, i.bytes)) = some (some (.int .i64 0), 1, 8) := by kernel_rfl
def PagesIs (zs : List Int) (w : World) (e : Ending) (w' : World) : Prop :=
 ∃ Bs Pb sv, e = .returned (.func (.func 118) #[] #[.pointer (some ⟨Bs, 0, none⟩)]) ∧ w'.cell? ⟨Bs, 0, none⟩ = some sv ∧ IntsIn w' Pb sv zs ∧ Pb < w'.heap.size ∧ Only (fun _ => False) w w'
theorem results_cell2 {fn : Func} {p u : Tmp} {t1 t2 : TypeId} (h : fn.results = #[.cell p t1, .cell u t2]) (tmps : Array Value) (P : Program) (w : World) :
  (results fn tmps).run P w = ((asAddr (tmps.getD p undef)).run P w).andThen fun a w₁ => ((loadVar t1 a).run P w₁).andThen fun v w₂ => ((asAddr (tmps.getD u undef)).run P w₂).andThen fun b w₃ => ((loadVar t2 b).run P w₃).andThen fun v' w₄ => .ok (.tuple #[v, v']) w₄ := by
 simp only [results, h]
 simp [Sem.run_bind, Result.andThen]
theorem load_ints (b : Nat) (v : Value) (w : World) (h : w.cell? ⟨b, 0, none⟩ = some v) : (loadVar 76 ⟨b, 0, none⟩).run Tryz.prog w = .ok v w := by go_simp
theorem load_bool (b : Nat) (v : Value) (w : World) (h : w.cell? ⟨b, 0, none⟩ = some v) : (loadVar 4 ⟨b, 0, none⟩).run Tryz.prog w = .ok v w := by go_simp
theorem func_not_nil (b : Nat) (w : World) : (binOp .eql 126 (.func (.func 118) #[] #[.pointer (some ⟨b, 0, none⟩)]) .nilFunc).run Tryz.prog w = .ok (.bool false) w := by kernel_rfl
theorem listed_core (zs : List Int) (hz : zs.length ≤ 728) (q : Option Addr) (w : World) (hP : ∀ w1, Only (fun _ => False) w w1 → CallsIn Fence.wide 5 Tryz.prog 77 #[.pointer q] w1 (PagesIs zs w1)) :
  CallsIn Fence.wide 6 Tryz.prog 49 #[.pointer q] w fun e w' => ∃ v, e = .returned (.tuple #[v, .bool true]) ∧ w'.ownsRow w.heap.size 3 1 v zs.length (zs.map (Value.int .i64)) ∧ Only (fun _ => False) w w' := by
 obtain ⟨i0, hi, hz0, hz1, hz2⟩ := info_parts infoI
 refine callsIn_of_wp_marks Tryz.func49 rfl trivial ?_ rfl
 simp only [Tryz.ntmps49, List.size_toArray, List.length_cons, List.length_nil, Nat.reduceAdd, Nat.reduceSub, Array.replicate_succ, Array.replicate_zero, List.push_toArray, List.append_toArray, List.nil_append, List.cons_append]
 gi_wp2_with fail
 have HPc := hP _ (((Only.refl (fun _ => False) w).alloc (.cells #[.slice none 0 0] 76)).alloc (.cells #[.bool false] 4))
 clear hP
 obtain ⟨wA, hwA⟩ : ∃ x, x = (w.alloc (.cells #[.slice none 0 0] 76)).alloc (.cells #[.bool false] 4) := ⟨_, rfl⟩
 have hA1 : wA.heap[w.heap.size]? = some (.cells #[.slice none 0 0] 76 (0, 0)) := by rw [hwA]; exact heap_alloc2_old w _ _
 have hA2 : wA.heap[w.heap.size + 1]? = some (.cells #[.bool false] 4 (0, 0)) := by rw [hwA]; exact heap_alloc2_new w _ _
 have oA : Only (fun _ => False) w wA := by rw [hwA]; exact ((Only.refl _ w).alloc _).alloc _
 have sA : wA.heap.size = w.heap.size + 2 := by rw [hwA]; simp
 rw [← hwA] at HPc ⊢
 clear hwA
 refine ⟨trivial, HPc.mono ?_⟩
 rintro e w2 ⟨Bs, Pb, lv, rfl, hb, hin, hPb, ho2⟩
 have s2 := ho2.size
 obtain ⟨wl, hwl⟩ : ∃ x, x = w2.alloc (.cells #[.slice none 0 0] 76) := ⟨_, rfl⟩
 have ol : Only (fun _ => False) w2 wl := by rw [hwl]; exact (Only.refl _ w2).alloc _
 have sl : wl.heap.size = w2.heap.size + 1 := by rw [hwl]; simp
 have bl : Boxed wl w2.heap.size 76 (.slice none 0 0) := by rw [hwl]; exact Boxed.new w2 _ _
 have hbl : wl.cell? ⟨Bs, 0, none⟩ = some lv := ol.cell hb (fun e => e)
 have hil : IntsIn wl Pb lv zs := by
  rcases hin with h | ⟨off, cap, h1, h2⟩
  ·exact .inl h
  ·exact .inr ⟨off, cap, h1, fun j hj => ol.cell (h2 j hj) (fun e => e)⟩
 have hl1 : wl.heap[w.heap.size]? = some (.cells #[.slice none 0 0] 76 (0, 0)) := by rw [ol.block _ (by omega) (fun e => e), ho2.block _ (by omega) (fun e => e)]; exact hA1
 have hl2 : wl.heap[w.heap.size + 1]? = some (.cells #[.bool false] 4 (0, 0)) := by rw [ol.block _ (by omega) (fun e => e), ho2.block _ (by omega) (fun e => e)]; exact hA2
 have owl : Only (fun _ => False) w wl := (oA.trans ho2 (fun _ _ e => e)).trans ol (fun _ _ e => e)
 have HW : Hid (wl = w2.alloc (.cells #[.slice none 0 0] 76)) := hwl
 have hn0 : w.heap.size + 2 ≤ w2.heap.size := by omega
 clear hwl HPc hA1 hA2 oA sA hb hin ho2 s2 ol
 have hnn := func_not_nil Bs
 gi_wp2
 clear hnn
 rw [← HW.out]
 refine wpIn_rangeFunc_ownG rfl (by omega) (gf := 118) (lb := #[.pointer (some ⟨Bs, 0, none⟩)]) rfl trivial (enters_of Tryz.func118 (by kernel_rfl) rfl)
  (values_stops 5 Bs Pb lv zs wl (by unfold maxLen; omega) hbl hil (by omega)) (fun h k => Eq.trans k h) ?hKb (Below.refl _ _) (fun _ => rfl)
  (fun pre W => (∃ v, Boxed W w2.heap.size 76 v ∧ W.ownsRow w2.heap.size 3 1 v pre.length (pre.map (Value.int .i64)) ∧ True) ∧ Below w2.heap.size wl W)
  (fun _ _ _ => False)
  (OwnFrom.and (Own.from (holdsRow_own w2.heap.size w2.heap.size 76 3 1 (fun pre : List Int => pre.length) (fun pre => pre.map (Value.int .i64)) (fun _ _ => True)) _) (ownFrom_below (by omega) (by omega)))
  (fun _ _ _ _ _ hs _ _ => hs)
  ⟨⟨_, bl, World.ownsRow_nil _ _ _ _, trivial⟩, Below.refl _ _⟩
  (fun x => { tmps := #[.pointer q, undef, .pointer (some ⟨w.heap.size, 0, none⟩), .pointer (some ⟨w.heap.size + 1, 0, none⟩), .func (.func 118) #[] #[.pointer (some ⟨Bs, 0, none⟩)], .pointer (some ⟨w2.heap.size, 0, none⟩), .int .i64 x, .pointer q, .func (.func 118) #[] #[.pointer (some ⟨Bs, 0, none⟩)], .func (.func 118) #[] #[.pointer (some ⟨Bs, 0, none⟩)], .bool false, .func (.func 118) #[] #[.pointer (some ⟨Bs, 0, none⟩)], .int .i64 x, undef, undef, undef, undef, undef, undef, undef, undef], defers := [] }) ?assign ?body ?done ?stop
 case hKb =>
  intro W l0 o o' hl0 hw0 ho1 ho2
  exact (grownBy_putObj' W l0 o').block Pb (by have := (Array.getElem?_eq_some_iff.1 hw0).1; omega) (fun e => by cases e; omega)
 case assign =>
  intro l0 x W K hK
  simp only [intEnc, List.zip_toArray, List.zip_cons_cons, List.zip_nil_right, List.foldl_toArray, List.foldl_cons, List.foldl_nil, List.setIfInBounds_toArray, List.set_cons_zero, List.set_cons_succ]
  gi_wp2
  exact hK
 case body =>
  rintro l0 pre x W ⟨⟨v, hv, hrow, _⟩, hB⟩ hlt
  have hc := hv.cell
  have hBs := hB.size
  have h728 : ¬ (728 : Int) < ((pre.length + 1 : Nat) : Int) := by omega
  gi_wp2_with (gi_at_builtin; refine wpListIn_append_own _ rfl _ _ 76 rfl w2.heap.size 3 i0 (.int .i64 0) 1 8 Tryz.underlying76 hi hz0 hz1 hz2 rfl (by decide) _ _ _ rfl (hrow.alloc _) ⟨W.heap.size, 0, none⟩ 1 1 [.int .i64 x] rfl rfl (cell_one_new _ _ _) (by simp [Value.oneCell']) (by unfold maxLen; omega) (by omega) (by simp; omega) ?_; intro v' w1 hown' hgrow _; obtain ⟨g', cap', rfl⟩ := ownsRow_succ hown'; obtain ⟨hv1, hv2, hr2, hk2, hb2⟩ := hv.appended (by decide) hrow (by omega) (Nat.le_refl _) hown' hgrow; have hc1 := hv1.cell; have hf1 := hv1.frozen; have hc2 := hv2.cell)
  exact ⟨hk2.from _, hb2.block Pb hPb, ⟨_, hv2, by simpa using hr2⟩, hB.trans hb2⟩
 case done =>
  rintro D ys W hD rfl ⟨⟨v, hv, hrow, _⟩, hB⟩ hK
  have hc := hv.cell
  have b1 : Boxed W w.heap.size 76 (.slice none 0 0) := (hB.block _ (by omega)).trans hl1
  have b2 : Boxed W (w.heap.size + 1) 4 (.bool false) := (hB.block _ (by omega)).trans hl2
  have c1 := b1.cell
  have f1 := b1.frozen
  obtain ⟨a, c, rfl⟩ := ownsRow_slice hrow
  have b3 : Boxed (W.setCell ⟨w.heap.size, 0, none⟩ (.slice a ys.length c)) (w.heap.size + 1) 4 (.bool false) := (Below.heap_setCell _ _ _ _ (by simp)).trans b2
  have c3 := b3.cell
  have f3 := b3.frozen
  gi_wp2
  obtain ⟨WF, hWF⟩ : ∃ x, x = (W.setCell ⟨w.heap.size, 0, none⟩ (.slice a ys.length c)).setCell ⟨w.heap.size + 1, 0, none⟩ (.bool true) := ⟨_, rfl⟩
  rw [← hWF]
  have e1 : Boxed WF w.heap.size 76 (.slice a ys.length c) := by rw [hWF]; exact (Below.heap_setCell _ _ _ _ (by simp)).trans (b1.set _)
  have e2 : Boxed WF (w.heap.size + 1) 4 (.bool true) := by rw [hWF]; exact b3.set _
  have hDW := (Array.getElem?_eq_some_iff.1 hK).1
  have hKF : WF.heap[D]? = some (.deferred (some [])) := by rw [hWF, Below.heap_setCell _ _ _ _ (by simp; omega), Below.heap_setCell _ _ _ _ (by simp; omega)]; exact hK
  have oF : Only (fun _ => False) w WF := by
   rw [hWF]
   refine (Only.setCell (Only.setCell ?_ _ _ (fun h => by simp at h)) _ _ (fun h => by simp at h; omega))
   exact owl.trans (Below.only hB) (fun k hk e => by omega)
  have hrF : WF.ownsRow w2.heap.size 3 1 (.slice a ys.length c) ys.length (ys.map (Value.int .i64)) := by
   have o1 : Only (fun k => k = w.heap.size ∨ k = w.heap.size + 1) W WF := by rw [hWF]; exact ((Only.refl _ W).setCell _ _ (fun _ => .inl rfl)).setCell _ _ (fun _ => .inr rfl)
   exact o1.owns hrow (fun k hk e => by have := (hrow.lt k hk).1; omega)
  clear hWF
  refine ⟨by simp, .inl ⟨_, _, rfl, run_takeDeferred hKF, ?_⟩⟩
  obtain ⟨WG, hWG⟩ : ∃ x, x = WF.putObj D (.deferred none) := ⟨_, rfl⟩
  have oG : Only (fun k => k = D) WF WG := by
   rw [hWG]
   exact (Only.refl _ WF).grown (grownBy_putObj' WF D _) (fun k e _ => by injection e with e; exact e.symm)
  rw [← hWG]
  have g1 := load_ints _ _ WG (oG.cell e1.cell (by simp; omega))
  have g2 := load_bool _ _ WG (oG.cell e2.cell (by simp; omega))
  refine ⟨.tuple #[.slice a ys.length c, .bool true], ?_, _, rfl, ?_, ?_⟩
  ·rw [results_cell2 rfl]
   change ((loadVar 76 ⟨w.heap.size, 0, none⟩).run Tryz.prog WG).andThen (fun v w₂ => ((loadVar 4 ⟨w.heap.size + 1, 0, none⟩).run Tryz.prog w₂).andThen fun v' w₄ => Result.ok (Value.tuple #[v, v']) w₄) = Result.ok (Value.tuple #[.slice a ys.length c, .bool true]) WG
   rw [g1]
   change ((loadVar 4 ⟨w.heap.size + 1, 0, none⟩).run Tryz.prog WG).andThen (fun v' w₄ => Result.ok (Value.tuple #[.slice a ys.length c, v']) w₄) = Result.ok (Value.tuple #[.slice a ys.length c, .bool true]) WG
   rw [g2]
   rfl
  ·refine ownsRow_base (oG.owns hrF (fun k hk e => ?_)) (by omega)
   subst e
   rcases hrF.2 with ⟨h1, _⟩ | ⟨g, cap, cur, h1, _, h2, _⟩
   ·rw [h1] at hk
    simp [Value.ownBlock] at hk
   ·rw [h1] at hk
    simp only [Value.ownBlock, Option.some.injEq] at hk
    subst hk
    rw [hKF] at h2
    cases h2
  ·exact oF.trans oG (fun k hk e => by omega)
 case stop =>
  rintro D c pre W _ _ h _
  exact h.elim
end Go.Proofs.YtlcglapcmdpkfaaGreat
namespace Go.Proofs.YtlcglapcmdpkfaaGreat
open Go.RowKit Go.Maps Go.Sort Go.Shelf
set_option linter.unusedSimpArgs false
set_option linter.unusedVariables false
set_option maxRecDepth 100000
set_option maxHeartbeats 16000000
theorem sorts (m : Nat) : AnyZI.SortsIn Tryz.prog Tryz.sortedA_ren Fence.wide m :=
 ⟨fun blk off cap ss W hH hblk hsz => callsIn_wide.2 (AnyM.slices_Sort_int Tryz.sortA blk off cap ss W hH hblk hsz),
  fun p cap W => callsIn_wide.2 (AnyM.slices_Sort_int_none Tryz.sortA p cap W)⟩
theorem entL_keys (l : List (Int × Value)) : intKeys (.map (entL l) : DataW Value) = l.map (·.1) := by
 simp only [intKeys, entL, List.map_map]
 apply List.map_congr_left
 intro p _
 rfl
theorem sort_rising {ks ss : List Int} (h : ks.Pairwise (· < ·)) (hp : ss.Perm ks) : ss.mergeSort (fun x y => decide (x ≤ y)) = ks := by
 have e := mergeSort_of_perm_i hp
 rw [show ss.mergeSort (fun x y => decide (x ≤ y)) = ss.mergeSort leI from rfl, e]
 exact List.mergeSort_of_pairwise (h.imp (fun {a b} hab => by simp; omega))
theorem sorted_keys (b : Nat) (l : List (Int × Value)) (w : World) (h : MapAt w b l) (hl : l.length ≤ 1000) :
  CallsIn Fence.wide 6 Tryz.prog 103 #[.func (.func 121) #[] #[.pointer (some ⟨w.heap.size, 0, none⟩)]] (w.alloc (.cells #[.map (some b)] 77)) fun e w' =>
   ∃ v, e = .returned v ∧ w'.ownsRow w.heap.size 3 1 v l.length ((l.map (·.1)).map (Value.int .i64)) ∧ Only (fun _ => False) w w' := by
 have hown := h.own
 have hbl := hown.lt
 have hseq : SeqGives Fence.wide 3 Tryz.prog 121 #[.pointer (some ⟨w.heap.size, 0, none⟩)] encZ (fun ss => ss.Perm (intKeys (.map (entL l) : DataW Value))) (Maps.size (.map (entL l) : DataW Value)) (w.alloc (.cells #[.map (some b)] 77)) :=
  AnyZI.keys_gives (ρ := Tryz.keysA_ren) { Tryz.keysA with } Fence.wide _ trivial rfl (by omega) w.heap.size b l.length (.map (entL l)) _ (by simp) (by simp) (hown.alloc _)
 have hsz : Maps.size (.map (entL l) : DataW Value) = l.length := by simp [Maps.size, entL_length]
 have cS := AnyZI.sorted_in Tryz.sortedA Fence.wide 6 trivial trivial trivial trivial rfl (by omega) (sorts _) (enters_of Tryz.func120 (by kernel_rfl) rfl) 121 #[.pointer (some ⟨w.heap.size, 0, none⟩)] trivial (enters_of Tryz.func121 (by kernel_rfl) rfl) _ _ (by rw [hsz]; unfold maxLen; omega) (by rw [hsz]; omega) _ hseq
 change CallsIn _ _ Tryz.prog 103 _ _ _ at cS
 refine cS.mono ?_
 rintro e w' ⟨v, ss, rfl, hS, hrow, _, hb⟩
 rw [entL_keys] at hS
 have hr : (l.map (·.1)).Pairwise (· < ·) := List.pairwise_map.2 h.rise
 rw [sort_rising hr hS] at hrow
 have hlen : ss.length = l.length := by rw [hS.length_eq, List.length_map]
 rw [hlen] at hrow
 refine ⟨v, rfl, ownsRow_base hrow (by simp), ?_⟩
 have hB := Below.only hb
 exact ((Only.refl (fun _ => False) w).alloc _).trans hB (fun k hk e => by simp at e; omega)
theorem keys_calls (b : Nat) (w : World) : Calls Tryz.prog 104 #[.map (some b)] w fun e w' => e = .returned (.func (.func 121) #[] #[.pointer (some ⟨w.heap.size, 0, none⟩)]) ∧ w' = w.alloc (.cells #[.map (some b)] 77) :=
 (callsIn_wide (n := 5)).1 (AnyZI.keys_in Tryz.keysA Fence.wide 5 trivial rfl (some b) w)
theorem ints_of_own {w : World} {B n : Nat} {a : Option Addr} {c : Nat} {zs : List Int} (h : w.ownsRow B 3 1 (.slice a n c) n (zs.map (Value.int .i64))) (hn : zs.length = n) : ∃ Pb, Pb < w.heap.size ∧ IntsIn w Pb (.slice a n c) zs ∨ (zs = [] ∧ a = none ∧ c = 0) := by
 rcases h.2 with ⟨h1, h2⟩ | ⟨g, cap, cur, h1, hB, hg, hcap, _, _, _⟩
 ·injection h1 with h1 h3 h4
  subst h1 h3 h4
  exact ⟨0, .inr ⟨List.eq_nil_of_length_eq_zero hn, rfl, rfl⟩⟩
 ·injection h1 with h1 h3 h4
  subst h1 h4
  refine ⟨g, .inl ⟨(Array.getElem?_eq_some_iff.1 hg).1, .inr ⟨0, _, by rw [hn], fun j hj => ?_⟩⟩⟩
  rw [Nat.zero_add, h.cellAt j (by omega)]
  simp [List.getD, hj]
theorem pages_ok {w : World} {dk : Nat → Prop} {s p mc mn : Nat} {tv : Value} {x : SS} (h : StAt w dk s p mc mn tv x) : Calls Tryz.prog 77 #[.pointer (some ⟨s, 0, none⟩)] w (PagesIs (x.now.map (·.1)) w) := by
 have HU := usable_ok s p w h.c0
 have h6 := h.c6
 obtain ⟨sl, hm, _⟩ := h.now
 have hlen : (x.now.map fun p => (p.1, pgV sl p)).length ≤ 1000 := by
  rw [List.length_map]
  have := Rise.len (a := 0) (b := 728) h.now.rise (fun p hp => (h.wf.now p hp).1)
  simp at this
  omega
 have HK := keys_calls mn w
 have HS : Hid (Calls Tryz.prog 103 _ _ _) := (callsIn_wide (n := 6)).1 (sorted_keys mn _ w hm hlen)
 have HV : ∀ a n c w, Calls Tryz.prog 102 #[.slice a n c] w _ := fun a n c w => (callsIn_wide (n := 5)).1 (values_in 5 a n c w)
 have HKK : Hid ((x.now.map fun p => (p.1, pgV sl p)).map (·.1) = x.now.map (·.1)) := (by rw [List.map_map]; rfl : _ = _)
 clear h hm hlen
 go_enter Tryz.func77, Tryz.ntmps77
 go_wp2_with (first | (go_at_call 35; refine HU.mono ?_; rintro e w' ⟨rfl, rfl⟩) | (go_at_call 104; refine HK.mono ?_; rintro e w' ⟨rfl, rfl⟩))
 refine (show Calls Tryz.prog 103 _ _ _ from HS.out).mono ?_
 rintro e w2 ⟨v, rfl, hrow, ho⟩
 rw [List.length_map, HKK.out] at hrow
 obtain ⟨a, c, rfl⟩ := ownsRow_slice hrow
 have H2 : Hid (∃ B0, w2.ownsRow B0 3 1 (.slice a x.now.length c) x.now.length ((x.now.map (fun q : Int × Nat × List Nat => q.1)).map (Value.int .i64))) := ⟨_, hrow⟩
 have HO : Hid (Only (fun _ => False) _ w2) := ho
 clear hrow ho HS HK HU
 go_wp2_with (go_at_call 102; refine (HV _ _ _ _).mono ?_; rintro e w3 ⟨rfl, rfl⟩)
 go_ret
 obtain ⟨B0, hrow⟩ := H2.out
 have oA : Only (fun _ => False) w2 (w2.alloc (.cells #[.slice a x.now.length c] 76)) := (Only.refl _ w2).alloc _
 have hrow3 := oA.owns hrow (fun _ _ e => e)
 obtain ⟨Pb, hP | ⟨h0, rfl, rfl⟩⟩ := ints_of_own hrow3 (by simp)
 ·exact ⟨_, Pb, _, rfl, (Boxed.new _ _ _).cell, hP.2, hP.1, HO.out.trans oA (fun _ _ e => e)⟩
 ·refine ⟨_, w2.heap.size, _, rfl, (Boxed.new _ _ _).cell, .inl ⟨?_, h0⟩, by simp, HO.out.trans oA (fun _ _ e => e)⟩
  have : x.now = [] := List.eq_nil_of_map_eq_nil h0
  simp [this]
end Go.Proofs.YtlcglapcmdpkfaaGreat
namespace Go.Proofs.YtlcglapcmdpkfaaGreat
open Go.RowKit Go.Maps Go.Shelf
set_option linter.unusedSimpArgs false
set_option linter.unusedVariables false
set_option maxRecDepth 100000
set_option maxHeartbeats 16000000
attribute [local go_sem] Oper.semAt_some
theorem wpListIn_append_run {F : Fence} {n : Nat} {P : Program} {w w' : World} {ops : Array Oper} {rest : List Oper} {o : Oper} {a : Act} {Q : Exit → Act → World → Prop}
  (hg : o.guard = none) (s x : Operand) (t : TypeId) (hop : o.op = Op.call { callee := Callee.builtin Builtin.append, args := #[s, x], argTypes := #[t, t] }) (v1 v2 v' : Value) (hs : a.eval s = v1) (hx : a.eval x = v2)
  (hr : ∀ ty, (Builtin.append_ #[t, t] ty #[v1, v2]).run P w = .ok v' w') (h : wpListIn F n P ops Q rest (a.put o.dst v') w') : wpListIn F n P ops Q (o :: rest) a w := by
 refine wpListIn_plain hg fun K hK' => ?_
 unfold Oper.wpIn
 refine ⟨?_, ?_⟩
 ·simp [Oper.about, hop, resolve, Target.leads, Sem.run_pure]
 ·rw [Oper.semAt_plain F _ _ (by rw [hop]; intro c hc'; cases hc')]
  simp [execOp, hop, resolve, invoke, builtin, hs, hx, hr, Result.andThen]
  exact hK' _ _ h
def PagesNew (zs : List Int) (w : World) (e : Ending) (w' : World) : Prop :=
 ∃ Bs Pb sv, e = .returned (.func (.func 118) #[] #[.pointer (some ⟨Bs, 0, none⟩)]) ∧ w'.cell? ⟨Bs, 0, none⟩ = some sv ∧ IntsIn w' Pb sv zs ∧ (w.heap.size ≤ Pb ∧ Pb < w'.heap.size) ∧ Only (fun _ => False) w w'
theorem ints_of_own2 {w : World} {B n : Nat} {a : Option Addr} {c : Nat} {zs : List Int} (h : w.ownsRow B 3 1 (.slice a n c) n (zs.map (Value.int .i64))) (hn : zs.length = n) : ∃ Pb, (B ≤ Pb ∧ Pb < w.heap.size) ∧ IntsIn w Pb (.slice a n c) zs ∨ (zs = [] ∧ a = none ∧ c = 0) := by
 rcases h.2 with ⟨h1, h2⟩ | ⟨g, cap, cur, h1, hB, hg, hcap, _, _, _⟩
 ·injection h1 with h1 h3 h4
  subst h1 h3 h4
  exact ⟨0, .inr ⟨List.eq_nil_of_length_eq_zero hn, rfl, rfl⟩⟩
 ·injection h1 with h1 h3 h4
  subst h1 h4
  refine ⟨g, .inl ⟨⟨hB, (Array.getElem?_eq_some_iff.1 hg).1⟩, .inr ⟨0, _, by rw [hn], fun j hj => ?_⟩⟩⟩
  rw [Nat.zero_add, h.cellAt j (by omega)]
  simp [List.getD, hj]
theorem pages_new {w : World} {dk : Nat → Prop} {s p mc mn : Nat} {tv : Value} {x : SS} (h : StAt w dk s p mc mn tv x) : Calls Tryz.prog 77 #[.pointer (some ⟨s, 0, none⟩)] w (PagesNew (x.now.map (·.1)) w) := by
 obtain ⟨N, hN⟩ : ∃ N, N = w.heap.size := ⟨_, rfl⟩
 have HN : Hid (N = w.heap.size) := hN
 have HU := usable_ok s p w h.c0
 have h6 := h.c6
 obtain ⟨sl, hm, _⟩ := h.now
 have hlen : (x.now.map fun p => (p.1, pgV sl p)).length ≤ 1000 := by
  rw [List.length_map]
  have := Rise.len (a := 0) (b := 728) h.now.rise (fun p hp => (h.wf.now p hp).1)
  simp at this
  omega
 have HK := keys_calls mn w
 have HS : Hid (Calls Tryz.prog 103 _ _ _) := (callsIn_wide (n := 6)).1 (sorted_keys mn _ w hm hlen)
 have HV : ∀ a n c w, Calls Tryz.prog 102 #[.slice a n c] w _ := fun a n c w => (callsIn_wide (n := 5)).1 (values_in 5 a n c w)
 have HKK : Hid ((x.now.map fun p => (p.1, pgV sl p)).map (·.1) = x.now.map (·.1)) := (by rw [List.map_map]; rfl : _ = _)
 clear h hm hlen hN
 go_enter Tryz.func77, Tryz.ntmps77
 go_wp2_with (first | (go_at_call 35; refine HU.mono ?_; rintro e w' ⟨rfl, rfl⟩) | (go_at_call 104; refine HK.mono ?_; rintro e w' ⟨rfl, rfl⟩))
 refine (show Calls Tryz.prog 103 _ _ _ from HS.out).mono ?_
 rintro e w2 ⟨v, rfl, hrow, ho⟩
 rw [List.length_map, HKK.out, ← HN.out] at hrow
 obtain ⟨a, c, rfl⟩ := ownsRow_slice hrow
 have H2 : Hid (w2.ownsRow N 3 1 (.slice a x.now.length c) x.now.length ((x.now.map (fun q : Int × Nat × List Nat => q.1)).map (Value.int .i64))) := hrow
 have HO : Hid (Only (fun _ => False) _ w2) := ho
 clear hrow ho HS HK HU
 go_wp2_with (go_at_call 102; refine (HV _ _ _ _).mono ?_; rintro e w3 ⟨rfl, rfl⟩)
 go_ret
 have hrow := H2.out
 have hs2 := HO.out.size
 have oA : Only (fun _ => False) w2 (w2.alloc (.cells #[.slice a x.now.length c] 76)) := (Only.refl _ w2).alloc _
 have hrow3 := oA.owns hrow (fun _ _ e => e)
 obtain ⟨Pb, hP | ⟨h0, rfl, rfl⟩⟩ := ints_of_own2 hrow3 (by simp)
 ·exact ⟨_, Pb, _, rfl, (Boxed.new _ _ _).cell, hP.2, by rw [← HN.out]; exact hP.1, HO.out.trans oA (fun _ _ e => e)⟩
 ·refine ⟨_, w2.heap.size, _, rfl, (Boxed.new _ _ _).cell, .inl ⟨?_, h0⟩, ⟨hs2, by simp⟩, HO.out.trans oA (fun _ _ e => e)⟩
  have : x.now = [] := List.eq_nil_of_map_eq_nil h0
  simp [this]
def nthEnc (zs : List Int) (k : Nat) : Array Value := #[.int .i64 (zs.getD k 0)]
theorem values_nth (m Bs Pb : Nat) (sv : Value) (zs : List Int) (w : World) (hl : zs.length ≤ maxLen) (hBs : w.cell? ⟨Bs, 0, none⟩ = some sv) (hi : IntsIn w Pb sv zs) (hP : Pb < w.heap.size) :
  SeqStopsK Fence.wide m Tryz.prog 118 #[.pointer (some ⟨Bs, 0, none⟩)] (nthEnc zs) (KpP Pb) (fun ys => ys = List.range zs.length) (fun _ => True) zs.length w := fun lo J Jx W hW _ _ hY h0 => by
 have hBl := World.block_lt_of_cell? w _ hBs
 have hBs' : W.cell? ⟨Bs, 0, none⟩ = some sv := (hW.cell (p := ⟨Bs, 0, none⟩) hBl).trans hBs
 rcases hi with ⟨rfl, rfl⟩ | ⟨off, cap, rfl, hc⟩
 ·exact (values_none m lo Bs (J []) W hBs' h0).mono fun e W' ⟨he, hj⟩ => ⟨he, .inl ⟨_, rfl, hj⟩⟩
 ·have key : ∀ k, k < zs.length → List.range (zs.take k ++ [zs.getD k 0]).length = List.range (zs.take k).length ++ [k] := fun k hk => by
   rw [List.length_append, List.length_take, Nat.min_eq_left (by omega)]
   exact List.range_succ
  refine (values_core m lo Bs Pb off cap zs hl (fun ys W => J (List.range ys.length) W) (fun ys W => Jx (List.range ys.length) W) (fun k W1 hk hJ => ?_) W hBs' (fun j hj => (hW.cell (p := ⟨Pb, off + j, none⟩) hP).trans (hc j hj)) h0).mono ?_
  ·have := hY (List.range (zs.take k).length) k W1 hJ (by rw [List.length_range, List.length_take]; omega)
   simp only [key k hk]
   exact this
  ·rintro e W' ⟨he, hj | ⟨k, _, hj⟩⟩
   ·exact ⟨he, .inl ⟨_, rfl, hj⟩⟩
   ·exact ⟨he, .inr ⟨_, trivial, hj⟩⟩
def atOf (l : Pgs) (i : Int) : Nat := ((pgAt l i).getD (0, [])).1
def putOf (l : Pgs) (zs : List Int) (pre : List Nat) : List Nat := ((pre.map fun k => zs.getD k 0).filter fun i => atOf l i == 0).map Int.toNat
theorem putOf_snoc (l : Pgs) (zs : List Int) (pre : List Nat) (k : Nat) : putOf l zs (pre ++ [k]) = putOf l zs pre ++ (if atOf l (zs.getD k 0) = 0 then [(zs.getD k 0).toNat] else []) := by
 simp only [putOf, List.map_append, List.filter_append, List.map_cons, List.map_nil]
 congr 1
 by_cases h : atOf l (zs.getD k 0) = 0
 ·simp only [List.filter_cons, List.filter_nil, h, beq_self_eq_true, if_true, List.map_cons, List.map_nil]
 ·have h' : (atOf l (zs.getD k 0) == 0) = false := by simpa using h
  simp only [List.filter_cons, List.filter_nil, h', h, if_false, List.map_nil, Bool.false_eq_true]
theorem map_range_getD (zs : List Int) : (List.range zs.length).map (fun k => zs.getD k 0) = zs := by
 apply List.ext_getElem
 ·simp
 ·intro i h1 h2
  simp at h1
  simp [List.getD, h1]
theorem putOf_all {l : Pgs} (h : Rise l) : putOf l (l.map (·.1)) (List.range (l.map (·.1)).length) = freshN l := by
 unfold putOf freshN
 rw [map_range_getD, List.filter_map, List.map_map]
 have : (l.filter ((fun i => atOf l i == 0) ∘ fun p => p.1)) = l.filter fun p => p.2.1 == 0 := by
  apply List.filter_congr
  intro p hp
  simp only [Function.comp, atOf, pgAt]
  rw [(getL_mem h p.1 p.2).2 hp]
  rfl
 rw [this]
 rfl
theorem putOf_len (l : Pgs) (zs : List Int) (pre : List Nat) : (putOf l zs pre).length ≤ pre.length := by
 unfold putOf
 rw [List.length_map]
 refine Nat.le_trans (List.length_filter_le ..) ?_
 simp
theorem app_int1 {w : World} {B : Nat} {v : Value} {zs : List Nat} (h : FreshI w B v zs) (hB : B ≤ w.heap.size) (q : Nat) (hl : zs.length + 1 ≤ 1048576) :
  ∃ a cap w', (∀ ty, (Builtin.append_ #[76, 76] ty #[v, .slice (some ⟨w.heap.size, 0, none⟩) 1 1]).run Tryz.prog (w.alloc (.cells #[.int .i64 (q : Int)] 3)) = .ok (.slice a (zs.length + 1) cap) w') ∧ FreshI w' B (.slice a (zs.length + 1) cap) (zs ++ [q]) ∧ Only (fun i => v.ownBlock = some i) w w' := by
 obtain ⟨i0, hi0, hz0, hz1, hz2⟩ := info_parts info3
 have o1 : Only (fun _ => False) w (w.alloc (.cells #[.int .i64 (q : Int)] 3)) := (Only.refl _ w).alloc _
 have h2 := h.frame o1
 have key := fun ty => run_append_own_at (P := Tryz.prog) (w.alloc (.cells #[.int .i64 (q : Int)] 3)) B 76 ty 3 i0 _ 1 8 Tryz.underlying76 hi0 hz0 hz1 hz2 rfl (by omega) v zs.length (IL zs) h2.1 ⟨w.heap.size, 0, none⟩ 1 1 [.int .i64 (q : Int)] rfl (World.news_of_block (heap_alloc_new w _)) (by simp [Value.oneCell']) (by unfold maxLen; omega) (by omega) (by have := o1.size; omega)
 obtain ⟨v', w', hr, own', hg, _, _⟩ := key 0
 obtain ⟨a, cap, rfl⟩ := ownsRow_slice own'
 refine ⟨a, cap, w', fun ty => by rw [← hr]; rfl, ⟨?_, by simpa using hl⟩, (o1.mono (fun _ _ e => e.elim)).trans ((Only.refl _ _).grown hg (fun k e hk => e)) (fun _ _ e => e)⟩
 have e : IL (zs ++ [q]) = IL zs ++ [.int .i64 (q : Int)] := by simp [IL]
 rw [e, List.length_append]
 exact own'
theorem keeps_of {base : Nat} {W W' : World} {bs : Nat → Prop} (ho : Only bs W W') (hc : ∀ b o, bs b → base ≤ b → W.heap[b]? = some o → o.isCells = true) : KeepsFrom base W W' :=
 ⟨ho.size, fun k ob hk hob hnc => by
  rw [ho.block k (Array.getElem?_eq_some_iff.1 hob).1 (fun e => by
   rw [hc k ob e hk hob] at hnc
   cases hnc)]
  exact hob⟩
structure FrI (wl : World) (Bx : Nat) (l : Pgs) (zs : List Int) (pre : List Nat) (W : World) : Prop where
 box : ∃ v, Boxed W Bx 76 v ∧ FreshI W wl.heap.size v (putOf l zs pre)
 only : Only (fun k => k = Bx) wl W
theorem owned_cells {W : World} {B e : Nat} {v : Value} {n : Nat} {xs : List Value} (h : W.ownsRow B e 1 v n xs) {b : Nat} {o : Obj} (hb : v.ownBlock = some b) (ho : W.heap[b]? = some o) : o.isCells = true := by
 rcases h.2 with ⟨e1, _⟩ | ⟨g, cap, cur, e1, _, e2, _⟩
 ·rw [e1] at hb; simp [Value.ownBlock] at hb
 ·rw [e1] at hb
  simp only [Value.ownBlock, Option.some.injEq] at hb
  subst hb
  rw [e2] at ho
  cases ho
  rfl
theorem FrI.frame {wl W W' : World} {Bx : Nat} {l : Pgs} {zs : List Int} {pre : List Nat} {row : Option Nat} (h : FrI wl Bx l zs pre W) (hBx : Bx < wl.heap.size)
  (hg : W.grownBy W' row) (hr : ∀ r, row = some r → wl.heap.size ≤ r ∧ ∃ o : Obj, W.heap[r]? = some o ∧ o.isCells = false) : FrI wl Bx l zs pre W' := by
 have oo : Only (fun k => row = some k) W W' := (Only.refl _ W).grown hg (fun k e _ => e)
 obtain ⟨v, hb, hf⟩ := h.box
 refine { box := ⟨v, hb.kept hg (fun e => by have := (hr Bx e.symm).1; omega), ⟨oo.owns hf.1 (fun b e1 e2 => ?_), hf.2⟩⟩, only := h.only.grown hg (fun k e hk => by have := (hr k e).1; omega) }
 obtain ⟨_, o, ho, hc⟩ := hr b e2
 rw [owned_cells hf.1 e1 ho] at hc
 cases hc
theorem getD_mem0 (zs : List Int) (h : ∀ z ∈ zs, 0 ≤ z ∧ z < 728) (k : Nat) : 0 ≤ zs.getD k 0 ∧ zs.getD k 0 < 728 := by
 simp only [List.getD]
 rcases Nat.lt_or_ge k zs.length with hl | hl
 ·rw [List.getElem?_eq_getElem hl]; exact h _ (List.getElem_mem hl)
 ·rw [List.getElem?_eq_none hl]; simp
theorem fresh_core {w : World} {dk : Nat → Prop} {s p mc mn : Nat} {tv : Value} {x : SS} (h : StAt w dk s p mc mn tv x) :
  CallsIn Fence.wide 6 Tryz.prog 78 #[.pointer (some ⟨s, 0, none⟩)] w fun e w' => ∃ v, e = .returned v ∧ FreshI w' w.heap.size v (freshN x.now) ∧ Only (fun _ => False) w w' := by
 obtain ⟨zs, hzs⟩ : ∃ q, q = x.now.map (·.1) := ⟨_, rfl⟩
 have hzl : zs.length ≤ 728 := by
  have := Rise.len (a := 0) (b := 728) h.now.rise (fun p hp => (h.wf.now p hp).1)
  simp at this
  rw [hzs, List.length_map]
  omega
 have hzk : ∀ z ∈ zs, 0 ≤ z ∧ z < 728 := fun z hz => by
  rw [hzs] at hz
  obtain ⟨q, hq, rfl⟩ := List.mem_map.1 hz
  exact (h.wf.now q hq).1
 have HP : Hid (∀ w1, Only (fun _ => False) w w1 → Calls Tryz.prog 77 #[.pointer (some ⟨s, 0, none⟩)] w1 (PagesNew zs w1)) := fun w1 ho => by rw [hzs]; exact pages_new (h.still ho)
 have HZ : Hid (zs = x.now.map (·.1)) := hzs
 have HS : Hid (StAt w dk s p mc mn tv x) := h
 have hsl := h.lt
 clear h hzs
 refine callsIn_of_wp_marks Tryz.func78 rfl trivial ?_ rfl
 simp only [Tryz.ntmps78, List.size_toArray, List.length_cons, List.length_nil, Nat.reduceAdd, Nat.reduceSub, Array.replicate_succ, Array.replicate_zero, List.push_toArray, List.append_toArray, List.nil_append, List.cons_append]
 gi_wp2_with fail
 obtain ⟨wA, hwA⟩ : ∃ q, q = (w.alloc (.cells #[.pointer (some ⟨s, 0, none⟩)] 32)).alloc (.cells #[.slice none 0 0] 76) := ⟨_, rfl⟩
 have hA1 : wA.heap[w.heap.size]? = some (.cells #[.pointer (some ⟨s, 0, none⟩)] 32 (0, 0)) := by rw [hwA]; exact heap_alloc2_old w _ _
 have hA2 : wA.heap[w.heap.size + 1]? = some (.cells #[.slice none 0 0] 76 (0, 0)) := by rw [hwA]; exact heap_alloc2_new w _ _
 have oA : Only (fun _ => False) w wA := by rw [hwA]; exact ((Only.refl _ w).alloc _).alloc _
 have sA : wA.heap.size = w.heap.size + 2 := by rw [hwA]; simp
 rw [← hwA]
 clear hwA
 refine ⟨trivial, ((callsIn_wide (n := 5)).2 (HP.out wA oA)).mono ?_⟩
 rintro e wl ⟨Bs, Pb, lv, rfl, hb, hin, hPb, ho2⟩
 have s2 := ho2.size
 have hl1 : wl.heap[w.heap.size]? = some (.cells #[.pointer (some ⟨s, 0, none⟩)] 32 (0, 0)) := by rw [ho2.block _ (by omega) (fun e => e)]; exact hA1
 have hl2 : Boxed wl (w.heap.size + 1) 76 (.slice none 0 0) := by unfold Boxed; rw [ho2.block _ (by omega) (fun e => e)]; exact hA2
 have owl : Only (fun _ => False) w wl := oA.trans ho2 (fun _ _ e => e)
 have hNP : Pb ≠ w.heap.size + 1 ∧ w.heap.size + 1 < wl.heap.size := by omega
 have hPl := hPb.2
 clear hA1 hA2 oA sA ho2 s2 HP
 gi_wp2
 refine wpIn_rangeFunc_ownG (w := wl) rfl (by omega) (gf := 118) (lb := #[.pointer (some ⟨Bs, 0, none⟩)]) rfl trivial (enters_of Tryz.func118 (by kernel_rfl) rfl)
  (values_nth 5 Bs Pb lv zs wl (by unfold maxLen; omega) hb hin hPl) (fun h k => Eq.trans k h) ?hKb (Below.refl _ _) (fun _ => rfl)
  (fun pre W => FrI wl (w.heap.size + 1) x.now zs pre W) (fun _ _ _ => False) ?hI (fun _ _ _ _ _ hs _ _ => hs)
  { box := ⟨_, hl2, FreshI.nil _ _⟩, only := Only.refl _ _ }
  (fun k => { tmps := #[.pointer (some ⟨s, 0, none⟩), .pointer (some ⟨w.heap.size, 0, none⟩), .slice none 0 0, .pointer (some ⟨w.heap.size + 1, 0, none⟩), .int .i64 (zs.getD k 0), .pointer (some ⟨s, 0, none⟩), .func (.func 118) #[] #[.pointer (some ⟨Bs, 0, none⟩)], .int .i64 (zs.getD k 0), undef, undef, undef, undef, undef, undef, undef, undef, undef, undef, undef, undef, undef], defers := [] }) ?assign ?body ?done ?stop
 case hKb =>
  intro W l0 o o' hl0 hw0 ho1 ho2
  exact (grownBy_putObj' W l0 o').block Pb (by have := (Array.getElem?_eq_some_iff.1 hw0).1; omega) (fun e => by cases e; omega)
 case hI => exact fun pre W W' row hs hg' hr => hs.frame hNP.2 hg' hr
 case assign =>
  intro l0 k W K hK
  simp only [nthEnc, List.zip_toArray, List.zip_cons_cons, List.zip_nil_right, List.foldl_toArray, List.foldl_cons, List.foldl_nil, List.setIfInBounds_toArray, List.set_cons_zero, List.set_cons_succ]
  gi_wp2
  exact hK
 case body =>
  rintro l0 pre k W hI hlen
  obtain ⟨v, hv, hf⟩ := hI.box
  have hik := getD_mem0 zs hzk k
  obtain ⟨q, hq⟩ : ∃ q : Nat, zs.getD k 0 = (q : Int) := ⟨(zs.getD k 0).toNat, by omega⟩
  have hsnoc := putOf_snoc x.now zs pre k
  rw [hq] at hik hsnoc ⊢
  have oW : Only (fun _ => False) w W := owl.trans hI.only (fun j hj e => by omega)
  have hsW := HS.out.still oW
  have c6 := hsW.c6
  obtain ⟨sl, hm, hbb⟩ := hsW.now
  obtain ⟨a, ad, n, c, zz, hval, _, hat, _⟩ := look_val hbb (q : Int)
  have hlk := hm.look1 (q : Int) (by omega)
  rw [hval] at hlk
  have cN : W.cell? ⟨w.heap.size, 0, none⟩ = some (.pointer (some ⟨s, 0, none⟩)) := hI.only.cell (by rw [cell_of_row _ _ _ _ _ _ hl1]; rfl) (by simp)
  have hc1 := hv.cell
  have hfz := hv.frozen
  have hfd := field_at (a : Int) ad n c
  have hpl := putOf_len x.now zs pre
  have hata : atOf x.now (q : Int) = a := by unfold atOf; rw [hat]
  rw [hata] at hsnoc
  obtain ⟨a2, c2, rfl, _⟩ := hf.form
  have HI : Hid (FrI wl (w.heap.size + 1) x.now zs pre W) := hI
  have HV : Hid (Boxed W (w.heap.size + 1) 76 (.slice a2 (putOf x.now zs pre).length c2) ∧ FreshI W wl.heap.size (.slice a2 (putOf x.now zs pre).length c2) (putOf x.now zs pre)) := ⟨hv, hf⟩
  have HSN : Hid _ := hsnoc
  have hwls := hI.only.size
  obtain ⟨m, hmm⟩ : ∃ m, m = (putOf x.now zs pre).length := ⟨_, rfl⟩
  rw [← hmm] at hc1 HV hpl hf
  by_cases ha : a = 0
  ·subst ha
   have hfd0 := field_at 0 ad n c
   clear hfd
   obtain ⟨a5, c5, w5, hr5, hf5, ho5⟩ := app_int1 hf hwls q (by omega)
   rw [← hmm] at hr5 hf5
   have HR5 : Hid _ := hr5
   have HF5 : Hid (FreshI w5 wl.heap.size (.slice a5 (m + 1) c5) (putOf x.now zs (pre ++ [k]))) := by
    rw [hsnoc, if_pos rfl]
    exact hf5
   have HO5 : Hid (Only (fun i => (Value.slice a2 m c2).ownBlock = some i) W w5) := ho5
   have hb5 : Boxed w5 (w.heap.size + 1) 76 (.slice a2 m c2) := by
    unfold Boxed
    rw [ho5.block _ (by omega) (fun e => by have := (hf.1.lt _ e).1; omega)]
    exact HV.out.1
   have c5' := hb5.cell
   have f5' := hb5.frozen
   have HB5 : Hid (Boxed w5 (w.heap.size + 1) 76 (.slice a2 m c2)) := hb5
   clear hI hv hf hsnoc hsW hm hbb hval hat hata hq hpl hmm hr5 hf5 ho5 hb5 oW hl1 hl2 hb hin
   gi_wp2_with (gi_at_builtin; refine wpListIn_append_run rfl _ _ 76 rfl _ _ (.slice a5 (m + 1) c5) rfl rfl HR5.out ?_)
   obtain ⟨W5, hW5⟩ : ∃ q, q = w5.setCell ⟨w.heap.size + 1, 0, none⟩ (.slice a5 (m + 1) c5) := ⟨_, rfl⟩
   rw [← hW5]
   have o5 : Only (fun k => k = w.heap.size + 1) w5 W5 := by rw [hW5]; exact (Only.refl _ w5).setCell _ _ (fun _ => rfl)
   have b5 : Boxed W5 (w.heap.size + 1) 76 (.slice a5 (m + 1) c5) := by rw [hW5]; exact HB5.out.set _
   have oo : Only (fun i => (Value.slice a2 m c2).ownBlock = some i ∨ i = w.heap.size + 1) W W5 := (HO5.out.mono (fun _ _ e => .inl e)).trans (o5.mono (fun _ _ e => .inr e)) (fun _ _ e => e)
   have hlt := fun b e => HV.out.2.1.lt b e
   refine ⟨keeps_of oo (fun b o e hb ho => ?_), ?_, { box := ⟨_, b5, ⟨o5.owns HF5.out.1 (fun b e e' => ?_), HF5.out.2⟩⟩, only := HI.out.only.trans oo (fun b hb e => ?_) }⟩
   ·rcases e with e | e
    ·exact owned_cells HV.out.2.1 e ho
    ·omega
   ·exact oo.block Pb (by omega) (fun e => by
     rcases e with e | e
     ·have := (hlt _ e).1; omega
     ·omega)
   ·have := (HF5.out.1.lt b e).1; omega
   ·rcases e with e | e
    ·have := (hlt _ e).1; omega
    ·exact e
  ·have ha' : ((a : Int) == 0) = false := by simp; omega
   rw [if_neg ha, List.append_nil] at hsnoc
   have HSN2 : Hid _ := hsnoc
   clear hI hv hf hsnoc hsW hm hbb hval hat hata hq hpl hmm oW hl1 hl2 hb hin hc1 hfz
   gi_wp2
   refine ⟨KeepsFrom.refl _ _, rfl, { box := ⟨_, HV.out.1, ?_⟩, only := HI.out.only }⟩
   rw [HSN2.out]
   exact HV.out.2
 case done =>
  rintro D ys W hD rfl hI hK
  obtain ⟨v, hv, hf⟩ := hI.box
  have hc1 := hv.cell
  rw [HZ.out, putOf_all HS.out.now.rise] at hf
  obtain ⟨a, c, rfl, _⟩ := hf.form
  have HI : Hid _ := hI
  have HF : Hid (FreshI W wl.heap.size (.slice a (freshN x.now).length c) (freshN x.now)) := hf
  have hwls := hI.only.size
  clear hI hv hf
  gi_wp2
  have oG : Only (fun k => k = D) W (W.putObj D (.deferred none)) := (Only.refl _ W).grown (grownBy_putObj' W D _) (fun k e _ => by injection e with e; exact e.symm)
  refine ⟨by simp, .inl ⟨_, _, rfl, run_takeDeferred hK, ?_⟩⟩
  refine ⟨_, results_tmp rfl _ _ _, _, rfl, ⟨ownsRow_base (oG.owns HF.out.1 (fun b e e' => ?_)) (by omega), HF.out.2⟩, (owl.trans HI.out.only (fun j hj e => by omega)).trans oG (fun j hj e => by omega)⟩
  subst e'
  have := owned_cells HF.out.1 e hK
  cases this
 case stop =>
  rintro D c pre W _ _ h _
  exact h.elim
end Go.Proofs.YtlcglapcmdpkfaaGreat
namespace Go.Proofs.YtlcglapcmdpkfaaGreat
open Go.RowKit
set_option linter.unusedSimpArgs false
set_option linter.unusedVariables false
set_option maxRecDepth 100000
set_option maxHeartbeats 16000000
section
variable {w : World} {rk : Nat → Prop} {B r q : Nat} {tv kv nv : Value} {x : SS} {lk ln : List RPg}
theorem RsAt.page (h : RsAt w rk B r q tv kv nv x lk ln) (k : Nat) (hk : k < x.now.length) :
  ∃ g c, nv = .slice (some ⟨g, 0, none⟩) x.now.length c ∧ w.cell? ⟨g, k * 3, none⟩ = some (.int .i64 (x.now[k]).1) ∧ w.cell? ⟨g, k * 3 + 1, none⟩ = some (.int .i64 ((x.now[k]).2.1 : Nat)) := by
 obtain ⟨a, c, hnv, _⟩ := h.now.form
 have hl := h.nowLen
 have hkl : k < ln.length := by omega
 have hn := h.now
 rw [hnv] at hn
 obtain ⟨g, rfl, z0, z1, z2⟩ := hn.at k hkl
 have e : x.now[k] = (ln[k]).p := by
  have := h.nowE
  simp only [← this, List.getElem_map]
 rw [e]
 exact ⟨g, c, by rw [hnv, hl], z0, z1⟩
theorem RsAt.keptAt (h : RsAt w rk B r q tv kv nv x lk ln) (k : Nat) (hk : k < x.com.length) :
  ∃ g c, kv = .slice (some ⟨g, 0, none⟩) x.com.length c ∧ w.cell? ⟨g, k * 3 + 1, none⟩ = some (.int .i64 ((x.com[k]).2.1 : Nat)) ∧ g < w.heap.size := by
 obtain ⟨a, c, hnv, _⟩ := h.kept.form
 have hl := h.comLen
 have hkl : k < lk.length := by omega
 have hn := h.kept
 rw [hnv] at hn
 obtain ⟨g, rfl, z0, z1, z2⟩ := hn.at k hkl
 have e : x.com[k] = (lk[k]).p := by
  have := h.comE
  simp only [← this, List.getElem_map]
 rw [e]
 exact ⟨g, c, by rw [hnv, hl], z1, World.block_lt_of_cell? w _ z1⟩
theorem RsAt.nowForm (h : RsAt w rk B r q tv kv nv x lk ln) : ∃ a c, nv = .slice a x.now.length c := by
 obtain ⟨a, c, hnv, _⟩ := h.now.form
 exact ⟨a, c, by rw [hnv, h.nowLen]⟩
theorem RsAt.comForm (h : RsAt w rk B r q tv kv nv x lk ln) : ∃ a c, kv = .slice a x.com.length c := by
 obtain ⟨a, c, hnv, _⟩ := h.kept.form
 exact ⟨a, c, by rw [hnv, h.comLen]⟩
theorem RsAt.n728 (h : RsAt w rk B r q tv kv nv x lk ln) : x.now.length ≤ 728 := pgs_len h.nowR (fun p hp => (h.wf.now p hp).1)
theorem RsAt.k728 (h : RsAt w rk B r q tv kv nv x lk ln) : x.com.length ≤ 728 := pgs_len h.comR (fun p hp => (h.wf.com p hp).1)
theorem freshN_take {l : Pgs} {k : Nat} (hk : k < l.length) : (freshN (l.take (k + 1))).length = (freshN (l.take k)).length + (if (l[k]).2.1 = 0 then 1 else 0) := by
 rw [List.take_succ_eq_append_getElem hk]
 simp only [freshN, List.filter_append, List.map_append, List.length_append, List.length_map]
 by_cases e : (l[k]).2.1 = 0 <;> simp [e]
theorem rfresh_any (h : RsAt w rk B r q tv kv nv x lk ln) :
  Calls Tryz.prog 87 #[.pointer (some ⟨r, 0, none⟩)] w fun e w' => e = .returned (.int .i64 ((freshN x.now).length : Nat)) ∧ w' = w := by
 have HH : Hid (RsAt w rk B r q tv kv nv x lk ln) := h
 obtain ⟨a, c, hnv⟩ := h.nowForm
 have c5 := h.c5
 have hn7 := h.n728
 obtain ⟨n, hn⟩ : ∃ n, n = x.now.length := ⟨_, rfl⟩
 rw [← hn] at hnv hn7
 have HN : Hid (n = x.now.length ∧ nv = .slice a n c) := ⟨hn, hnv⟩
 rw [hnv] at c5
 clear h hnv hn
 go_enter Tryz.func87, Tryz.ntmps87
 go_wp2_with fail
 go_loopw [3, 4] (fun f t wr => ∃ k m : Nat, k ≤ n ∧ m ≤ k ∧ t = .int .i64 k ∧ f = .int .i64 m ∧ Hid (m = (freshN (x.now.take k)).length) ∧ w = wr) (fun _ t _ => n - (intOf t).toNat)
 case atStart => exact ⟨0, 0, Nat.zero_le _, Nat.le_refl _, rfl, rfl, by show 0 = _; simp [freshN], rfl⟩
 case round =>
  obtain ⟨k, m, hk, hmk, rfl, rfl, HM, rfl⟩ := hrel
  by_cases hlt : k < n
  ·have hkx : k < x.now.length := by rw [← HN.out.1]; exact hlt
   obtain ⟨g, c', hv, z0, z1⟩ := HH.out.page k hkx
   rw [HN.out.2] at hv
   simp only [Value.slice.injEq] at hv
   obtain ⟨rfl, _, rfl⟩ := hv
   have i0 : (0 : Int) ≤ (k : Int) := Int.natCast_nonneg _
   have i1 : (k : Int) < (n : Int) := by omega
   have HS : Hid (_ = _) := freshN_take hkx
   obtain ⟨A, hA⟩ : ∃ A, A = (x.now[k]).2.1 := ⟨_, rfl⟩
   rw [← hA] at z1 HS
   clear z0 hA
   by_cases h0 : A = 0
   ·subst h0
    rw [if_pos rfl] at HS
    go_wp2
    go_roundw
    case rel => exact ⟨k + 1, m + 1, by omega, by omega, by go_num, by go_num, by show _ = _; rw [HS.out, HM.out], trivial⟩
    case measure => simp [intOf]; omega
   ·have hb : ((A : Int) == 0) = false := by simp; omega
    rw [if_neg h0] at HS
    go_wp2
    go_roundw
    case rel => exact ⟨k + 1, m, by omega, by omega, by go_num, rfl, by show _ = _; rw [HS.out, HM.out]; rfl, trivial⟩
    case measure => simp [intOf]; omega
  ·obtain rfl : k = n := by omega
   have HF : Hid (m = (freshN x.now).length) := by have := HM.out; rw [List.take_of_length_le (by rw [HN.out.1]; exact Nat.le_refl _)] at this; exact this
   clear HM
   go_wp2
   go_ret
   rw [← HF.out]
   exact ⟨rfl, rfl⟩
theorem tables_any (n : Nat) (w : World) (hn : n ≤ 1000000) : Calls Tryz.prog 89 #[.int .i64 (n : Nat)] w fun e w' => e = .returned (.int .i64 (tabN n : Nat)) ∧ w' = w := by
 have e : wrap64 (((n : Int) + 111).tdiv 112) = (tabN n : Nat) := by
  rw [Int.tdiv_eq_ediv_of_nonneg (by omega)]
  unfold tabN wrap64
  omega
 have e3 : ((n : Int) + 111) / 112 = (tabN n : Nat) := by unfold tabN; omega
 go_enter Tryz.func89, Tryz.ntmps89
 go_wp2
 go_ret
 exact ⟨rfl, rfl⟩
theorem rpages_any (h : RsAt w rk B r q tv kv nv x lk ln) :
  Calls Tryz.prog 51 #[.pointer (some ⟨r, 0, none⟩)] w fun e w' => ∃ a c, e = .returned (.slice a x.now.length c) ∧ Hid (FreshI w' w.heap.size (.slice a x.now.length c) (x.now.map fun p => p.1.toNat) ∧ Only (fun _ => False) w w') := by
 have HH : Hid (RsAt w rk B r q tv kv nv x lk ln) := h
 obtain ⟨a, c, hnv⟩ := h.nowForm
 have c5 := h.c5
 have c6 := h.c6
 have hn7 := h.n728
 have hlt0 := h.lt
 obtain ⟨n, hn⟩ : ∃ n, n = x.now.length := ⟨_, rfl⟩
 rw [← hn] at hnv hn7
 rw [← hn]
 have HN : Hid (n = x.now.length ∧ nv = .slice a n c) := ⟨hn, hnv⟩
 rw [hnv] at c5
 clear h hnv hn
 go_enter Tryz.func51, Tryz.ntmps51
 go_wp2_with fail
 go_loopw [3, 4] (fun f t wr => ∃ k : Nat, k ≤ n ∧ t = .int .i64 k ∧ Hid (∃ (a : Option Addr) (c : Nat), f = .slice a k c ∧ FreshI wr w.heap.size (.slice a k c) ((x.now.take k).map fun p => p.1.toNat) ∧ Only (fun _ => False) w wr)) (fun _ t _ => n - (intOf t).toNat)
 case atStart => exact ⟨0, Nat.zero_le _, rfl, none, 0, rfl, by simpa using FreshI.nil _ _, Only.refl _ _⟩
 case round =>
  obtain ⟨k, hk, rfl, HI⟩ := hrel
  obtain ⟨a2, c2, rfl, hfr, ho⟩ := HI.out
  clear HI
  obtain ⟨wq, rfl⟩ : ∃ q, q = wr := ⟨_, rfl⟩
  have y5 := ho.cell c5 (fun e => e)
  have y6 := ho.cell c6 (fun e => e)
  by_cases hlt : k < n
  ·have hkx : k < x.now.length := by rw [← HN.out.1]; exact hlt
   obtain ⟨g, c', hv, z0, z1⟩ := HH.out.page k hkx
   rw [HN.out.2] at hv
   simp only [Value.slice.injEq] at hv
   obtain ⟨rfl, _, rfl⟩ := hv
   have i0 : (0 : Int) ≤ (k : Int) := Int.natCast_nonneg _
   have i1 : (k : Int) < (n : Int) := by omega
   have h01 := (HH.out.wf.now _ (List.getElem_mem hkx)).1
   obtain ⟨I, hI⟩ : ∃ I : Nat, (I : Int) = (x.now[k]).1 := ⟨(x.now[k]).1.toNat, by omega⟩
   have hlen : ((x.now.take k).map fun p => p.1.toNat).length = k := by simp; omega
   obtain ⟨a3, c3, w3, hr3, hf3, ho3⟩ := app_int1 hfr (by have := ho.size; omega) I (by rw [hlen]; omega)
   rw [hlen] at hr3 hf3
   have y0 := ho.cell z0 (fun e => e)
   rw [← hI] at y0
   have HR : Hid _ := hr3
   have HF : Hid (FreshI w3 w.heap.size (.slice a3 (k + 1) c3) ((x.now.take (k + 1)).map fun p => p.1.toNat) ∧ Only (fun _ => False) w w3) := by
    refine ⟨?_, ho.trans ho3 (fun b hb e => by have := hfr.1.lt b e; omega)⟩
    have e : ((x.now.take (k + 1)).map fun p => p.1.toNat) = ((x.now.take k).map fun p => p.1.toNat) ++ [I] := by
     rw [List.take_succ_eq_append_getElem hkx, List.map_append]
     simp only [List.map_cons, List.map_nil]
     rw [← hI]; simp
    rw [e]
    exact hf3
   clear hr3 hf3 ho3 hfr ho z0 z1 hI h01 hkx hlen
   go_wp2_with (at_builtin; refine wpList_append_run rfl _ _ 76 rfl _ _ (.slice a3 (k + 1) c3) rfl rfl HR.out ?_)
   go_roundw
   case rel => exact ⟨k + 1, by omega, by go_num, a3, c3, rfl, HF.out.1, HF.out.2⟩
   case measure => simp [intOf]; omega
  ·obtain rfl : k = n := by omega
   have HF : Hid (FreshI wq w.heap.size (.slice a2 k c2) (x.now.map fun p => p.1.toNat) ∧ Only (fun _ => False) w wq) := by
    rw [List.take_of_length_le (by rw [HN.out.1]; exact Nat.le_refl _)] at hfr
    exact ⟨hfr, ho⟩
   clear hfr ho
   go_wp2
   go_ret
   exact ⟨_, _, rfl, HF⟩
theorem rpages_dead (r : Nat) (a : Option Addr) (n c : Nat) (w : World) (h5 : w.cell? ⟨r, 5, none⟩ = some (.slice a n c)) (h6 : w.cell? ⟨r, 6, none⟩ = some (.bool true)) :
  Calls Tryz.prog 51 #[.pointer (some ⟨r, 0, none⟩)] w fun e w' => e = .returned (.slice none 0 0) ∧ w' = w := by
 go_enter Tryz.func51, Tryz.ntmps51
 go_wp2_with fail
 refine wp_loop_rounds 1 ?_; rw [rounds_succ]
 by_cases h0 : (0 : Int) < (n : Int)
 ·go_wp2
  go_ret
  exact ⟨rfl, rfl⟩
 ·have hd : decide ((0 : Int) < (n : Int)) = false := by simpa using h0
  go_wp2
  go_ret
  exact ⟨rfl, rfl⟩
end
section
variable {w : World} {rk : Nat → Prop} {B r q : Nat} {tv kv nv : Value} {x : SS} {lk ln : List RPg}
theorem rused_any (h : RsAt w rk B r q tv kv nv x lk ln) (dn : Nat) (hq : w.cell? ⟨q, 0, none⟩ = some (.int .i64 dn)) (hdn : dn ≤ 8192) (hsz : dn / 4 = x.size) :
  Calls Tryz.prog 86 #[.pointer (some ⟨r, 0, none⟩)] w fun e w' => e = .returned (.slice (some ⟨w.heap.size, 0, none⟩) x.size x.size) ∧ Hid (FBlk w' w.heap.size x.size (usedF x) ∧ Only (fun _ => False) w w') := by
 have HC := rcount_any q dn w hdn hq
 rw [hsz] at HC
 have HH : Hid (RsAt w rk B r q tv kv nv x lk ln) := h
 have c0 := h.c0
 have c3 := h.c3
 have c4 := h.c4
 obtain ⟨a4, n4, hv4, hc4⟩ := h.tabs.shape
 have HT : Hid (∀ j, j < x.tabs.length → ∃ g o, a4 = some ⟨g, o, none⟩ ∧ w.cell? ⟨g, o + j, none⟩ = some (.int .i64 (x.tabs.getD j 0 : Nat))) := hc4
 have htl := h.wf.tabs
 have HTL : Hid (∀ t ∈ x.tabs, 2 ≤ t ∧ t < x.size) := htl.2
 obtain ⟨ak, ck, hkv⟩ := h.comForm
 have hk7 := h.k728
 have hsize := h.wf.size
 obtain ⟨N, hN⟩ : ∃ N, N = x.size := ⟨_, rfl⟩
 obtain ⟨n, hn⟩ : ∃ n, n = x.com.length := ⟨_, rfl⟩
 obtain ⟨m, hm⟩ : ∃ m, m = x.tabs.length := ⟨_, rfl⟩
 have HN : Hid (N = x.size ∧ n = x.com.length ∧ m = x.tabs.length ∧ kv = .slice ak n ck) := ⟨hN, hn, hm, by rw [hn]; exact hkv⟩
 rw [← hN] at HC hsize ⊢
 rw [← hn] at hkv hk7
 rw [← hm] at hv4
 have hm7 : m ≤ 2048 := by rw [hm]; exact htl.1
 rw [hkv] at c4
 rw [hv4] at c3
 have hlt := h.lt
 obtain ⟨Z, hZ⟩ : ∃ Z, Z = ((flF N (fun _ => false)).map Value.bool).toArray := ⟨_, rfl⟩
 have hmk : (Instr.makeSlice 38 (.int .i64 N) (.int .i64 N)).run Tryz.prog w = .ok (.slice (some ⟨w.heap.size, 0, none⟩) N N) (w.alloc (.cells Z 4)) := by rw [hZ]; exact make_fl N (by omega) w
 have zz : ∀ j, j < N → Z[j]? = some (.bool false) := fun j hj => by
  rw [hZ, List.getElem?_toArray, List.getElem?_map]
  unfold flF
  rw [List.getElem?_map, List.getElem?_range hj]
  rfl
 have z0 := zz 0 (by omega)
 have z1 := zz 1 (by omega)
 obtain ⟨Y, hY⟩ : ∃ Y, Y = (Z.setIfInBounds 0 (.bool true)).setIfInBounds 1 (.bool true) := ⟨_, rfl⟩
 have hYf : Y = ((flF N (fun j => decide (j < 2))).map Value.bool).toArray := by
  have e : flF N (fun j => decide (j < 2)) = ((flF N (fun _ => false)).set 0 true).set 1 true := by
   rw [flF_set, flF_set]
   unfold flF
   apply List.map_congr_left
   intro j hj
   rw [Bool.eq_iff_iff]; simp; omega
  rw [hY, hZ, e]
  simp [List.map_set]
 have HS : Hid (FBlk (w.alloc (.cells ((Z.setIfInBounds 0 (.bool true)).setIfInBounds 1 (.bool true)) 4)) w.heap.size N (fun j => decide (j < 2)) ∧ Only (fun _ => False) w (w.alloc (.cells ((Z.setIfInBounds 0 (.bool true)).setIfInBounds 1 (.bool true)) 4))) := ⟨by rw [← hY, hYf]; exact heap_alloc_new w _, (Only.refl _ w).alloc _⟩
 have n0 : (0 : Int) < (N : Int) := by omega
 have n1 : (1 : Int) < (N : Int) := by omega
 clear h hc4 htl hkv hv4 hN hn hm hZ hY hYf zz
 go_enter Tryz.func86, Tryz.ntmps86
 go_wp2_with fail
 refine HC.mono ?_
 rintro e w1 ⟨rfl, rfl⟩
 clear HC
 go_wp2_with fail
 clear hmk z0 z1
 go_loopw [4] (fun t wr => ∃ k : Nat, k ≤ m ∧ t = .int .i64 k ∧ FBlk wr w1.heap.size N (fun j => decide (j < 2) || (x.tabs.take k).any (fun t => t == j)) ∧ Only (fun _ => False) w1 wr) (fun t _ => m - (intOf t).toNat)
 case atStart => exact ⟨0, Nat.zero_le _, rfl, HS.out.1.congr (fun j _ => by simp), HS.out.2⟩
 case round =>
  obtain ⟨k, hk, rfl, hfb, ho⟩ := hrel
  obtain ⟨wq, rfl⟩ : ∃ q, q = wr := ⟨_, rfl⟩
  have y3 := ho.cell c3 (fun e => e)
  by_cases hlt2 : k < m
  ·have hkx : k < x.tabs.length := by rw [← HN.out.2.2.1]; exact hlt2
   obtain ⟨g, o, hga, z0⟩ := HT.out k hkx
   subst hga
   have y0 := ho.cell z0 (fun e => e)
   obtain ⟨T, hT⟩ : ∃ T, T = x.tabs.getD k 0 := ⟨_, rfl⟩
   have hTe : T = x.tabs[k] := by rw [hT]; simp [List.getD, hkx]
   have hTN : T < N := by rw [HN.out.1, hTe]; exact (HTL.out _ (List.getElem_mem hkx)).2
   rw [← hT] at y0
   have bT := hfb.cell T hTN
   have fT := hfb.frozen T
   have HF : Hid (FBlk (wq.setCell ⟨w1.heap.size, T, none⟩ (.bool true)) w1.heap.size N (fun j => decide (j < 2) || (x.tabs.take (k + 1)).any (fun t => t == j)) ∧ Only (fun _ => False) w1 (wq.setCell ⟨w1.heap.size, T, none⟩ (.bool true))) := by
    refine ⟨(hfb.set T).congr (fun j _ => ?_), ho.setCell _ _ (fun e => by simp at e)⟩
    rw [List.take_succ_eq_append_getElem hkx, List.any_append, ← hTe]
    simp only [List.any_cons, List.any_nil, Bool.or_false, Bool.or_assoc]
    rw [show (j == T) = (T == j) from Bool.beq_comm ..]
   have i0 : (0 : Int) ≤ (k : Int) := Int.natCast_nonneg _
   have i1 : (k : Int) < (m : Int) := by omega
   have t0 : (0 : Int) ≤ (T : Int) := Int.natCast_nonneg _
   have t1 : (T : Int) < (N : Int) := by omega
   clear hfb ho z0 hT hTe hkx
   go_wp2
   go_roundw
   case rel => exact ⟨k + 1, by omega, by go_num, HF.out.1, HF.out.2⟩
   case measure => simp [intOf]; omega
  ·obtain rfl : k = m := by omega
   have HF2 : Hid (FBlk wq w1.heap.size N (fun j => decide (j < 2) || x.tabs.any (fun t => t == j)) ∧ Only (fun _ => False) w1 wq) := by
    rw [List.take_of_length_le (by rw [HN.out.2.2.1]; exact Nat.le_refl _)] at hfb
    exact ⟨hfb, ho⟩
   clear hfb ho hlt2
   go_wp2_with fail
   go_loopw [5] (fun t wr => ∃ k : Nat, k ≤ n ∧ t = .int .i64 k ∧ FBlk wr w1.heap.size N (fun j => decide (j < 2) || x.tabs.any (fun t => t == j) || (x.com.take k).any (fun p => p.2.1 == j)) ∧ Only (fun _ => False) w1 wr) (fun t _ => n - (intOf t).toNat)
   case atStart => exact ⟨0, Nat.zero_le _, rfl, HF2.out.1.congr (fun j _ => by simp), HF2.out.2⟩
   case round =>
    obtain ⟨k2, hk2, rfl, hfb, ho⟩ := hrel
    obtain ⟨wq2, rfl⟩ : ∃ q, q = wr := ⟨_, rfl⟩
    have y4 := ho.cell c4 (fun e => e)
    by_cases hlt3 : k2 < n
    ·have hkx : k2 < x.com.length := by rw [← HN.out.2.1]; exact hlt3
     obtain ⟨g, c', hv, z1, _⟩ := HH.out.keptAt k2 hkx
     rw [HN.out.2.2.2] at hv
     simp only [Value.slice.injEq] at hv
     obtain ⟨rfl, _, rfl⟩ := hv
     have y1 := ho.cell z1 (fun e => e)
     obtain ⟨T, hT⟩ : ∃ T, T = (x.com[k2]).2.1 := ⟨_, rfl⟩
     have hTN : T < N := by rw [HN.out.1, hT]; exact (HH.out.wf.com _ (List.getElem_mem hkx)).2.1.2
     rw [← hT] at y1
     have bT := hfb.cell T hTN
     have fT := hfb.frozen T
     have HF : Hid (FBlk (wq2.setCell ⟨w1.heap.size, T, none⟩ (.bool true)) w1.heap.size N (fun j => decide (j < 2) || x.tabs.any (fun t => t == j) || (x.com.take (k2 + 1)).any (fun p => p.2.1 == j)) ∧ Only (fun _ => False) w1 (wq2.setCell ⟨w1.heap.size, T, none⟩ (.bool true))) := by
      refine ⟨(hfb.set T).congr (fun j _ => ?_), ho.setCell _ _ (fun e => by simp at e)⟩
      rw [List.take_succ_eq_append_getElem hkx, List.any_append]
      simp only [List.any_cons, List.any_nil, Bool.or_false, Bool.or_assoc, ← hT]
      rw [show (j == T) = (T == j) from Bool.beq_comm ..]
     have i0 : (0 : Int) ≤ (k2 : Int) := Int.natCast_nonneg _
     have i1 : (k2 : Int) < (n : Int) := by omega
     have t0 : (0 : Int) ≤ (T : Int) := Int.natCast_nonneg _
     have t1 : (T : Int) < (N : Int) := by omega
     clear hfb ho z1 hT hkx
     go_wp2
     go_roundw
     case rel => exact ⟨k2 + 1, by omega, by go_num, HF.out.1, HF.out.2⟩
     case measure => simp [intOf]; omega
    ·obtain rfl : k2 = n := by omega
     have HF3 : Hid (FBlk wq2 w1.heap.size N (usedF x) ∧ Only (fun _ => False) w1 wq2) := by
      rw [List.take_of_length_le (by rw [HN.out.2.1]; exact Nat.le_refl _)] at hfb
      refine ⟨hfb.congr (fun j _ => ?_), ho⟩
      unfold usedF
      rw [Bool.or_assoc, Bool.or_assoc, Bool.or_comm (x.tabs.any _)]
     clear hfb ho
     go_wp2
     go_ret
     exact ⟨rfl, HF3⟩
end
end Go.Proofs.YtlcglapcmdpkfaaGreat
