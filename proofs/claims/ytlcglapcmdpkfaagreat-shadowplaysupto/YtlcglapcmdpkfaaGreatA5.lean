import Derived.Test.YtlcglapcmdpkfaaGreatA4
namespace Go.Proofs.YtlcglapcmdpkfaaGreat
open Go.RowKit Go.Maps Go.Shelf
set_option linter.unusedSimpArgs false
set_option linter.unusedVariables false
def freeL (x : SS) (k : Nat) : List Nat := (List.range k).filter fun j => !usedF x j
theorem freeL_len (x : SS) : ∀ k, (freeL x k).length = freeN x k
 | 0 => rfl
 | k + 1 => by
   have ih := freeL_len x k
   simp only [freeL, List.range_succ, List.filter_append, List.length_append] at ih ⊢
   unfold freeN
   rw [ih]
   cases h : usedF x k <;> simp [h]
theorem freeL_mem {x : SS} {k a : Nat} : a ∈ freeL x k ↔ a < k ∧ usedF x a = false := by simp [freeL]
theorem fr_take (F : List Bool) (n : Nat) : ∀ k, fr F n k = ((List.range k).filter fun j => !(F.getD j false)).take n
 | 0 => by simp [fr]
 | k + 1 => by
   have ih := fr_take F n k
   obtain ⟨L, hL⟩ : ∃ L, L = (List.range k).filter fun j => !(F.getD j false) := ⟨_, rfl⟩
   simp only [fr, List.range_succ, List.filter_append]
   rw [ih, ← hL]
   by_cases h : F.getD k false = true
   ·rw [if_pos (.inr h)]
    simp only [List.filter_cons, h, List.filter_nil, Bool.not_true, if_false, List.append_nil, Bool.false_eq_true]
   ·have h' : F.getD k false = false := by simpa using h
    simp only [List.filter_cons, h', List.filter_nil, Bool.not_false, if_true]
    by_cases hl : (L.take n).length = n
    ·rw [if_pos (.inl hl), List.take_append_of_le_length (by rw [List.length_take] at hl; omega)]
    ·have hno : ¬ ((L.take n).length = n ∨ F.getD k false = true) := by
      rintro (e | e)
      ·exact hl e
      ·exact h e
     rw [h'] at hno
     rw [if_neg hno, List.take_of_length_le (l := L) (by rw [List.length_take] at hl; omega), List.take_of_length_le]
     rw [List.length_take] at hl
     simp
     omega
theorem fr_free_all (x : SS) (n : Nat) : fr (flF x.size (usedF x)) n (flF x.size (usedF x)).length = (freeL x x.size).take n := by
 rw [flF_length, fr_take]
 congr 1
 apply List.filter_congr
 intro j hj
 rw [flF_getD _ _ _ (List.mem_range.1 hj)]
def putN (x : SS) : Nat := (freshN x.now).length
def needA (x : SS) (A : List Nat) : Nat := putN x + tabN (tabB (layP x.now A)).length
def plA (x : SS) : List Nat := if putN x ≤ freeN x x.size ∧ needA x ((freeL x x.size).take (putN x)) ≤ freeN x x.size then (freeL x x.size).take (putN x) else List.replicate (putN x) (x.size - 1)
theorem plA_length (x : SS) : (plA x).length = putN x := by
 unfold plA
 split
 ·rename_i h
  rw [List.length_take, freeL_len]
  omega
 ·simp
theorem plA_lt {x : SS} (h : x.Wf) : ∀ a ∈ plA x, a < x.size := by
 intro a ha
 unfold plA at ha
 split at ha
 ·exact (freeL_mem.1 (List.mem_of_mem_take ha)).1
 ·rw [List.eq_of_mem_replicate ha]
  have := h.size
  omega
theorem lay_wf {x : SS} (h : x.Wf) {A : List Nat} (hA : ∀ a ∈ A, a < 2048) : ∀ p ∈ layP x.now A, p.1.toNat < 16384 ∧ p.2.1 < 16384 := by
 intro p hp
 have hs := h.size
 rcases layP_mem hp with e | ⟨e1, e2⟩
 ·have := h.now p e
  omega
 ·have h1 := (h.now _ e1).1
  simp only at h1
  rcases e2 with e2 | e2
  ·have := hA _ e2
   omega
  ·omega
theorem st_len {w : World} {dk : Nat → Prop} {s p mc mn : Nat} {tv : Value} {x : SS} (h : StAt w dk s p mc mn tv x) : x.now.length ≤ 728 := by
 have := Rise.len (a := 0) (b := 728) h.now.rise (fun p hp => (h.wf.now p hp).1)
 simp at this
 omega
theorem FreshI.ints {w : World} {B : Nat} {v : Value} {zs : List Nat} (h : FreshI w B v zs) : IntsAt w v zs := by
 obtain ⟨a, c, rfl, hc⟩ := h.form
 unfold IntsAt
 rcases h.1.2 with ⟨e, e0⟩ | ⟨g, cap, cur, e, _, hg, hcap, _, _, _⟩
 ·exact .inl ⟨by rw [e], e0⟩
 ·injection e with e1 _ e3
  subst e1 e3
  refine .inr ⟨⟨g, 0, none⟩, _, rfl, hcap, fun j hj => ?_⟩
  rw [Addr.add_mid, Nat.zero_add]
  obtain ⟨g', e', hc'⟩ := hc j (by omega)
  injection e' with e'
  injection e' with e' _ _
  subst e'
  exact hc'
def PlanIs (x : SS) (dk : Nat → Prop) (s mc mn : Nat) (A : List Nat) (w : World) (e : Ending) (w' : World) : Prop :=
 ∃ a1 c1 m a3 c3, e = .returned (.agg #[.slice a1 (putN x) c1, .map (some m), .slice a3 (tabB (layP x.now A)).length c3]) ∧ Hid (FreshI w' w.heap.size (.slice a1 (putN x) c1) (freshN x.now) ∧ w.heap.size ≤ m ∧ PMap w' (fun k => mutB dk s mc mn k ∨ w.heap.size ≤ k) m (layP x.now A) ∧ Fresh w' w.heap.size (.slice a3 (tabB (layP x.now A)).length c3) (tabB (layP x.now A)) ∧ Only (fun _ => False) w w')
theorem RBlk.ints {w : World} {g n v : Nat} (h : RBlk w g (v : Nat) n n) : IntsAt w (.slice (some ⟨g, 0, none⟩) n n) (List.replicate n v) := by
 unfold IntsAt
 rw [List.length_replicate]
 refine .inr ⟨⟨g, 0, none⟩, n, rfl, Nat.le_refl _, fun j hj => ?_⟩
 rw [Addr.add_mid, Nat.zero_add, cell_of_row _ _ _ _ _ _ h]
 simp only [List.getElem?_toArray]
 have hj' : j < n := by omega
 rw [rpL_get _ _ _ _ hj']
 simp [List.getD, hj']
set_option maxRecDepth 100000 in
set_option maxHeartbeats 2000000 in
theorem plan_any {w : World} {dk : Nat → Prop} {s p mc mn : Nat} {tv : Value} {x : SS} (h : StAt w dk s p mc mn tv x) (hdk : ∀ k, dk k → k < w.heap.size) :
  Calls Tryz.prog 54 #[.pointer (some ⟨s, 0, none⟩)] w (PlanIs x dk s mc mn (plA x) w) := by
 have hwf := h.wf
 have HS : Hid (StAt w dk s p mc mn tv x) := h
 have hnl := st_len h
 have hpn : putN x ≤ 728 := by have := freshN_len x.now; unfold putN; omega
 obtain ⟨wa, hwa⟩ : ∃ q, q = w.alloc (.cells #[.slice none 0 0, .map none, .slice none 0 0] 105) := ⟨_, rfl⟩
 have HWA : Hid (wa = w.alloc (.cells #[.slice none 0 0, .map none, .slice none 0 0] 105)) := hwa
 have oa : Only (fun _ => False) w wa := by rw [hwa]; exact (Only.refl _ w).alloc _
 have ra : wa.heap[w.heap.size]? = some (.cells #[.slice none 0 0, .map none, .slice none 0 0] 105 (0, 0)) := by rw [hwa]; exact heap_alloc_new w _
 have HRA : Hid _ := ra
 have HOA : Hid (Only (fun _ => False) w wa) := oa
 have sA : wa.heap.size = w.heap.size + 1 := by rw [hwa]; simp
 have HFr : Hid (Calls Tryz.prog 78 #[.pointer (some ⟨s, 0, none⟩)] wa fun e w' => ∃ a c, e = .returned (.slice a (putN x) c) ∧ FreshI w' wa.heap.size (.slice a (putN x) c) (freshN x.now) ∧ Only (fun _ => False) wa w') := by
  refine ((callsIn_wide (n := 6)).1 (fresh_core (h.still oa))).mono ?_
  rintro e w' ⟨v, rfl, hf, ho⟩
  obtain ⟨a, c, rfl, _⟩ := hf.form
  exact ⟨a, c, rfl, hf, ho⟩
 have HPm : Hid (PMap w (fun k => mutB dk s mc mn k ∨ w.heap.size ≤ k) mn x.now) := by
  obtain ⟨sl, q1, q2⟩ := h.now
  exact ⟨sl, q1, fun q hq => ⟨(q2 q hq).1, fun b e => ⟨((q2 q hq).2 b e).1, fun e' => e'.elim ((q2 q hq).2 b e).2 (fun h9 => by have := ((q2 q hq).2 b e).1; omega)⟩⟩⟩
 clear h hwa oa ra
 obtain ⟨F, hF⟩ : ∃ F, F = putN x := ⟨_, rfl⟩
 have HF : Hid (F = putN x) := hF
 rw [← hF] at HFr hpn
 clear hF
 go_enter Tryz.func54, Tryz.ntmps54
 go_wp2_with fail
 rw [← HWA.out]
 refine (show Calls Tryz.prog 78 _ _ _ from HFr.out).mono ?_
 rintro e w1 ⟨a1, c1, rfl, hf1, ho1⟩
 clear HFr
 have hs1 : StAt w1 dk s p mc mn tv x := (HS.out.still HOA.out).still ho1
 have HU : Hid (Calls Tryz.prog 56 #[.pointer (some ⟨s, 0, none⟩)] w1 fun e w' => ∃ g, e = .returned (.slice (some ⟨g, 0, none⟩) x.size x.size) ∧ FBlk w' g x.size (usedF x) ∧ Only (fun _ => False) w1 w') := by
  refine (used_any hs1).mono ?_
  rintro e w' ⟨rfl, q1, q2⟩
  exact ⟨_, rfl, q1, q2⟩
 have H1 : Hid (FreshI w1 wa.heap.size (.slice a1 F c1) (freshN x.now) ∧ Only (fun _ => False) wa w1) := ⟨hf1, ho1⟩
 clear hf1 ho1 hs1
 go_wp2_with fail
 refine (show Calls Tryz.prog 56 _ _ _ from HU.out).mono ?_
 rintro e w2 ⟨g, rfl, hf2, ho2⟩
 clear HU
 have HFi : Hid (Calls Tryz.prog 55 #[.slice (some ⟨g, 0, none⟩) x.size x.size, .int .i64 F] w2 fun e w' => FirstIs ((freeL x x.size).take F) F w2 e w') := by
  have := first_ok _ _ F w2 (hf2.flags (by have := hwf.size; omega)) (by rw [flF_length]; have := hwf.size; omega)
  rw [fr_free_all] at this
  exact this
 have H2 : Hid (Only (fun _ => False) w1 w2) := ho2
 clear hf2 ho2
 have HPl : Hid (∀ (W : World) (A : List Nat) (a2 : Option Addr) (c2 : Nat), Only (fun _ => False) w1 W → IntsAt W (.slice a2 F c2) A → A.length = F → (∀ a ∈ A, a < 2048) → Calls Tryz.prog 79 #[.pointer (some ⟨s, 0, none⟩), .slice a1 F c1, .slice a2 F c2] W fun e W' => ∃ m a3 c3, e = .returned (.agg #[.slice a1 F c1, .map (some m), .slice a3 (tabB (layP x.now A)).length c3]) ∧ Hid (W.heap.size ≤ m ∧ PMap W' (fun k => mutB dk s mc mn k ∨ w.heap.size ≤ k) m (layP x.now A) ∧ Fresh W' W.heap.size (.slice a3 (tabB (layP x.now A)).length c3) (tabB (layP x.now A)) ∧ Only (fun _ => False) W W')) := by
  intro W A a2 c2 ho hi hA hb
  have o1 := (HOA.out.trans H1.out.2 (fun _ _ e => e)).trans ho (fun _ _ e => e)
  have e1 : (freshN x.now).length = F := HF.out.symm
  have hi1 : IntsAt W (.slice a1 F c1) (freshN x.now) := (H1.out.1.frame ho).ints
  rw [← hA] at hi
  rw [← e1] at hi1
  have := (callsIn_wide (n := 6)).1 (planat_core (HS.out.still o1) (fun k => mutB dk s mc mn k ∨ w.heap.size ≤ k) (HPm.out.frame o1 (fun e => e) (fun _ _ e => e.elim) (fun _ _ e => e)) a1 a2 c1 c2 A hi1 hi (by rw [hA, e1]) hb)
  rw [hA, e1] at this
  exact this
 have HEND : Hid (∀ (AA : List Nat) (m : Nat) (a3 : Option Addr) (c3 : Nat) (W5 WE : World), Only (fun _ => False) w1 W5 → Hid (W5.heap.size ≤ m ∧ PMap WE (fun k => mutB dk s mc mn k ∨ w.heap.size ≤ k) m (layP x.now AA) ∧ Fresh WE W5.heap.size (.slice a3 (tabB (layP x.now AA)).length c3) (tabB (layP x.now AA)) ∧ Only (fun _ => False) W5 WE) → AA = plA x → PlanIs x dk s mc mn (plA x) w (.returned (.agg #[.slice a1 F c1, .map (some m), .slice a3 (tabB (layP x.now AA)).length c3])) (((WE.setCell ⟨w.heap.size, 0, none⟩ (.slice a1 F c1)).setCell ⟨w.heap.size, 1, none⟩ (.map (some m))).setCell ⟨w.heap.size, 2, none⟩ (.slice a3 (tabB (layP x.now AA)).length c3))) := by
  intro AA m a3 c3 W5 WE ho hpo hAA
  subst hAA
  obtain ⟨p1, p2, p3, p4⟩ := hpo.out
  have oT := only_set3 WE w.heap.size 0 1 2 (.slice a1 F c1) (.map (some m)) (.slice a3 (tabB (layP x.now (plA x))).length c3)
  have s1 := H1.out.2.size
  have s5 := ho.size
  have oE : Only (fun _ => False) w1 WE := ho.trans p4 (fun _ _ e => e)
  have oW : Only (fun _ => False) w WE := (HOA.out.trans H1.out.2 (fun _ _ e => e)).trans oE (fun _ _ e => e)
  refine ⟨a1, c1, m, a3, c3, by rw [← HF.out], ?_⟩
  rw [← HF.out]
  have hfi := (H1.out.1.frame oE)
  refine ⟨⟨ownsRow_base (oT.owns hfi.1 (fun k e1 e2 => by have := (hfi.1.lt k e1).1; omega)) (by omega), hfi.2⟩, by omega, ?_, ⟨ownsRow_base (oT.owns p3.1 (fun k e1 e2 => by have := (p3.1.lt k e1).1; omega)) (by omega), p3.2⟩, oW.trans oT (fun k hk e => by omega)⟩
  exact p2.frame oT (by omega) (fun k _ e => .inr (by omega)) (fun k _ e => e)
 go_wp2_with fail
 refine (show Calls Tryz.prog 55 _ _ _ from HFi.out).mono ?_
 clear HFi
 rintro e WB (⟨hlt, rfl, ho3⟩ | ⟨heq, u, rfl, hu, ho3⟩)
 ·have OB : Hid (Only (fun _ => False) w1 WB) := H2.out.trans ho3 (fun _ _ e => e)
  have NOT : Hid (¬ (putN x ≤ freeN x x.size ∧ needA x ((freeL x x.size).take (putN x)) ≤ freeN x x.size)) := by
   rintro ⟨q1, _⟩
   rw [List.length_take, freeL_len, HF.out] at hlt
   omega
  clear hlt ho3
  have hsz := hwf.size
  have e1 : IntKind.i64.wrap ((x.size : Int) - 1) = ((x.size - 1 : Nat) : Int) := by rw [IntKind.wrap_i64]; omega
  obtain ⟨sz, hsze⟩ : ∃ q, q = x.size - 1 := ⟨_, rfl⟩
  have HSZ : Hid (sz = x.size - 1) := hsze
  rw [← hsze] at e1
  have c1' : WB.cell? ⟨s, 1, none⟩ = some (.int .i64 (x.size : Nat)) := ((HS.out.still (HOA.out.trans H1.out.2 (fun _ _ e => e))).still OB.out).c1
  obtain ⟨wr, hwr⟩ : ∃ q, q = WB.alloc (.cells #[.int .i64 (sz : Nat)] 3) := ⟨_, rfl⟩
  have HWR : Hid (wr = WB.alloc (.cells #[.int .i64 (sz : Nat)] 3)) := hwr
  have owr : Only (fun _ => False) WB wr := by rw [hwr]; exact (Only.refl _ WB).alloc _
  have HRp : Hid (Calls Tryz.prog 80 #[.slice (some ⟨WB.heap.size, 0, none⟩) 1 1, .int .i64 F] wr fun e w' => ∃ g5, e = .returned (.slice (some ⟨g5, 0, none⟩) F F) ∧ IntsAt w' (.slice (some ⟨g5, 0, none⟩) F F) (List.replicate F sz) ∧ Only (fun _ => False) WB w') := by
   have hx : wr.cell? ⟨WB.heap.size, 0, none⟩ = some (.int .i64 (sz : Nat)) := by rw [hwr, cell_of_row _ _ _ _ _ _ (heap_alloc_new WB _)]; rfl
   refine (repeat_any sz F WB.heap.size (by omega) wr hx).mono ?_
   rintro e w' ⟨rfl, hb, ho⟩
   exact ⟨_, rfl, hb.ints, owr.trans ho (fun _ _ e => e)⟩
  clear hwr owr hsze
  go_wp2_with fail
  rw [← HWR.out]
  refine (show Calls Tryz.prog 80 _ _ _ from HRp.out).mono ?_
  rintro e W5 ⟨g5, rfl, hi5, ho5⟩
  clear HRp c1' e1
  have O5 : Hid (Only (fun _ => False) w1 W5) := OB.out.trans ho5 (fun _ _ e => e)
  have HPA : Hid (Calls Tryz.prog 79 _ _ _) := HPl.out W5 (List.replicate F sz) (some ⟨g5, 0, none⟩) F O5.out hi5 (by simp) (fun a ha => by rw [List.eq_of_mem_replicate ha, HSZ.out]; omega)
  have HAA : Hid (List.replicate F sz = plA x) := by
   have hn := NOT.out
   have e1 := HSZ.out
   have e2 := HF.out
   show List.replicate F sz = plA x
   unfold plA
   rw [if_neg hn, e1, e2]
  clear hi5 ho5
  go_wp2_with fail
  refine (show Calls Tryz.prog 79 _ _ _ from HPA.out).mono ?_
  rintro e WE ⟨m, a3, c3, rfl, HPO⟩
  clear HPA
  have OE : Hid (Only (fun _ => False) wa WE) := (H1.out.2.trans O5.out (fun _ _ e => e)).trans HPO.out.2.2.2 (fun _ _ e => e)
  obtain ⟨AA, hAA⟩ : ∃ q, q = List.replicate F sz := ⟨_, rfl⟩
  rw [← hAA] at HPO HAA ⊢
  clear hAA
  have oE : Only (fun _ => False) wa WE := OE.out
  have hrs : WE.heap[w.heap.size]? = some (.cells #[.slice none 0 0, .map none, .slice none 0 0] 105 (0, 0)) := by rw [oE.block _ (by omega) (fun e => e)]; exact HRA.out
  have r0 : WE.cell? ⟨w.heap.size, 0, none⟩ = some (.slice none 0 0) := by rw [cell_of_row _ _ _ _ _ _ hrs]; rfl
  have r1 : WE.cell? ⟨w.heap.size, 1, none⟩ = some (.map none) := by rw [cell_of_row _ _ _ _ _ _ hrs]; rfl
  have r2 : WE.cell? ⟨w.heap.size, 2, none⟩ = some (.slice none 0 0) := by rw [cell_of_row _ _ _ _ _ _ hrs]; rfl
  have z0 := frozen_of_row _ _ 0 _ _ hrs
  have z1 := frozen_of_row _ _ 1 _ _ hrs
  have z2 := frozen_of_row _ _ 2 _ _ hrs
  have HRS : Hid _ := hrs
  clear oE hrs
  go_wp2
  clear r0 r1 r2 z0 z1 z2
  refine bodyPost_ret (results_cell_row rfl _ _ w.heap.size 105 _ _ _ rfl (row_set3 HRS.out _ _ _) Tryz.underlying105 rfl (by kernel_rfl)) rfl ?_
  exact HEND.out AA m a3 c3 W5 WE O5.out HPO HAA.out
 ·obtain ⟨WP, hWP⟩ : ∃ WP, WP = WB := ⟨_, rfl⟩
  subst hWP
  obtain ⟨a2, c2, rfl, _⟩ := hu.form
  rw [heq] at hu ⊢
  have O3 : Hid (Only (fun _ => False) w1 WP) := H2.out.trans ho3 (fun _ _ e => e)
  have hAb : ∀ a ∈ (freeL x x.size).take F, a < 2048 := fun a ha => by have := (freeL_mem.1 (List.mem_of_mem_take ha)).1; have := hwf.size; omega
  have HPA : Hid (Calls Tryz.prog 79 _ _ _) := HPl.out WP ((freeL x x.size).take F) a2 c2 O3.out hu.ints heq hAb
  have HEQ : Hid (putN x ≤ freeN x x.size) := by
   rw [List.length_take, freeL_len] at heq
   have := HF.out
   show putN x ≤ freeN x x.size
   omega
  clear hu heq ho3
  go_wp2_with fail
  refine (show Calls Tryz.prog 79 _ _ _ from HPA.out).mono ?_
  rintro e w4 ⟨m, a3, c3, rfl, HPO⟩
  clear HPA
  obtain ⟨T, hT⟩ : ∃ T, T = (tabB (layP x.now ((freeL x x.size).take F))).length := ⟨_, rfl⟩
  have HT : Hid (T = (tabB (layP x.now ((freeL x x.size).take F))).length) := hT
  have hT4 : T ≤ 2912 := by
   have h4 := tabB_len _ (lay_wf hwf hAb)
   rw [layP_length] at h4
   omega
  rw [← hT]
  obtain ⟨wp, hwp⟩ : ∃ q, q = w4.alloc (.cells #[.slice a1 F c1, .map (some m), .slice a3 T c3] 105) := ⟨_, rfl⟩
  have HWP : Hid (wp = w4.alloc (.cells #[.slice a1 F c1, .map (some m), .slice a3 T c3] 105)) := hwp
  have owp : Only (fun _ => False) w4 wp := by rw [hwp]; exact (Only.refl _ w4).alloc _
  have bwp : wp.heap[w4.heap.size]? = some (.cells #[.slice a1 F c1, .map (some m), .slice a3 T c3] 105 (0, 0)) := by rw [hwp]; exact heap_alloc_new w4 _
  have HNd : Hid (Calls Tryz.prog 57 _ _ _) := need_any a1 a3 F c1 T c3 (some m) wp (by omega) (by omega)
  have O4 : Hid (Only (fun _ => False) w1 w4) := O3.out.trans HPO.out.2.2.2 (fun _ _ e => e)
  have HBW : Hid (Only (fun _ => False) w4 wp ∧ wp.heap[w4.heap.size]? = some (.cells #[.slice a1 F c1, .map (some m), .slice a3 T c3] 105 (0, 0))) := ⟨owp, bwp⟩
  clear hwp owp bwp hT
  go_wp2_with fail
  rw [← HWP.out]
  refine (show Calls Tryz.prog 57 _ _ _ from HNd.out).mono ?_
  rintro e w6 ⟨rfl, ho6⟩
  clear HNd
  have O6 : Hid (Only (fun _ => False) wp w6) := ho6
  have HFe : Hid (Calls Tryz.prog 76 _ _ _) := free_any ((((HS.out.still (HOA.out.trans H1.out.2 (fun _ _ e => e))).still O4.out).still HBW.out.1).still ho6)
  clear ho6
  obtain ⟨nd, hnd⟩ : ∃ q, q = F + tabN T := ⟨_, rfl⟩
  obtain ⟨fn, hfn⟩ : ∃ q, q = freeN x x.size := ⟨_, rfl⟩
  have HND : Hid (nd = F + tabN T ∧ fn = freeN x x.size) := ⟨hnd, hfn⟩
  rw [← hfn] at HFe
  rw [← hnd]
  clear hnd hfn
  go_wp2_with fail
  refine (show Calls Tryz.prog 76 _ _ _ from HFe.out).mono ?_
  rintro e WB ⟨rfl, ho7⟩
  clear HFe
  have o47 : Only (fun _ => False) w4 WB := (HBW.out.1.trans O6.out (fun _ _ e => e)).trans ho7 (fun _ _ e => e)
  have OB : Hid (Only (fun _ => False) w1 WB) := O4.out.trans o47 (fun _ _ e => e)
  have ND : Hid (needA x ((freeL x x.size).take (putN x)) = nd) := by
   have e1 := HF.out
   have e2 := HT.out
   show needA x ((freeL x x.size).take (putN x)) = nd
   unfold needA
   rw [← e1, ← e2, HND.out.1]
  by_cases hle : nd ≤ fn
  ·have hle' : (nd : Int) ≤ (fn : Int) := by omega
   obtain ⟨WE, hWE⟩ : ∃ WE, WE = WB := ⟨_, rfl⟩
   have hpl : WE.heap[w4.heap.size]? = some (.cells #[.slice a1 F c1, .map (some m), .slice a3 T c3] 105 (0, 0)) := by
    rw [hWE, ho7.block _ (by have := O6.out.size; have := (Array.getElem?_eq_some_iff.1 HBW.out.2).1; omega) (fun e => e), O6.out.block _ (Array.getElem?_eq_some_iff.1 HBW.out.2).1 (fun e => e)]
    exact HBW.out.2
   have p0 : WE.cell? ⟨w4.heap.size, 0, none⟩ = some (.slice a1 F c1) := by rw [cell_of_row _ _ _ _ _ _ hpl]; rfl
   have p1 : WE.cell? ⟨w4.heap.size, 1, none⟩ = some (.map (some m)) := by rw [cell_of_row _ _ _ _ _ _ hpl]; rfl
   have p2 : WE.cell? ⟨w4.heap.size, 2, none⟩ = some (.slice a3 T c3) := by rw [cell_of_row _ _ _ _ _ _ hpl]; rfl
   have OE : Hid (Only (fun _ => False) wa WE) := by
    rw [hWE]
    exact H1.out.2.trans OB.out (fun _ _ e => e)
   obtain ⟨AA, hAA⟩ : ∃ q, q = (freeL x x.size).take F := ⟨_, rfl⟩
   have HAA : Hid (AA = plA x) := by
    have e1 := HF.out
    have e2 := HEQ.out
    have e3 := ND.out
    have e4 := HND.out.2
    show AA = plA x
    unfold plA
    rw [if_pos ⟨e2, by rw [e3, ← e4]; exact hle⟩, ← e1, hAA]
   have HPO2 : Hid (WP.heap.size ≤ m ∧ PMap WE (fun k => mutB dk s mc mn k ∨ w.heap.size ≤ k) m (layP x.now AA) ∧ Fresh WE WP.heap.size (.slice a3 (tabB (layP x.now AA)).length c3) (tabB (layP x.now AA)) ∧ Only (fun _ => False) WP WE) := by
    obtain ⟨q1, q2, q3, q4⟩ := HPO.out
    have hTT := HT.out
    rw [hWE, hAA, ← hTT]
    rw [← hTT] at q3
    exact ⟨q1, q2.frame o47 (fun e => e) (fun _ _ e => e.elim) (fun _ _ e => e), q3.frame o47, q4.trans o47 (fun _ _ e => e)⟩
   have HTA : Hid (T = (tabB (layP x.now AA)).length) := by rw [hAA]; exact HT.out
   clear ho7 o47 hpl hAA HPO
   rw [← hWE]
   clear hWE
   have oE : Only (fun _ => False) wa WE := OE.out
   have hrs : WE.heap[w.heap.size]? = some (.cells #[.slice none 0 0, .map none, .slice none 0 0] 105 (0, 0)) := by rw [oE.block _ (by omega) (fun e => e)]; exact HRA.out
   have r0 : WE.cell? ⟨w.heap.size, 0, none⟩ = some (.slice none 0 0) := by rw [cell_of_row _ _ _ _ _ _ hrs]; rfl
   have r1 : WE.cell? ⟨w.heap.size, 1, none⟩ = some (.map none) := by rw [cell_of_row _ _ _ _ _ _ hrs]; rfl
   have r2 : WE.cell? ⟨w.heap.size, 2, none⟩ = some (.slice none 0 0) := by rw [cell_of_row _ _ _ _ _ _ hrs]; rfl
   have z0 := frozen_of_row _ _ 0 _ _ hrs
   have z1 := frozen_of_row _ _ 1 _ _ hrs
   have z2 := frozen_of_row _ _ 2 _ _ hrs
   have HRS : Hid _ := hrs
   clear oE hrs
   go_wp2
   clear r0 r1 r2 z0 z1 z2 p0 p1 p2
   rw [HTA.out]
   refine bodyPost_ret (results_cell_row rfl _ _ w.heap.size 105 _ _ _ rfl (row_set3 HRS.out _ _ _) Tryz.underlying105 rfl (by kernel_rfl)) rfl ?_
   exact HEND.out AA m a3 c3 WP WE O3.out HPO2 HAA.out
  ·have hle' : ¬ (nd : Int) ≤ (fn : Int) := by omega
   have NOT : Hid (¬ (putN x ≤ freeN x x.size ∧ needA x ((freeL x x.size).take (putN x)) ≤ freeN x x.size)) := by
    rintro ⟨_, q2⟩
    rw [ND.out] at q2
    have := HND.out.2
    omega
   clear ho7 o47 HPO
   have hsz := hwf.size
   have e1 : IntKind.i64.wrap ((x.size : Int) - 1) = ((x.size - 1 : Nat) : Int) := by rw [IntKind.wrap_i64]; omega
   obtain ⟨sz, hsze⟩ : ∃ q, q = x.size - 1 := ⟨_, rfl⟩
   have HSZ : Hid (sz = x.size - 1) := hsze
   rw [← hsze] at e1
   have c1' : WB.cell? ⟨s, 1, none⟩ = some (.int .i64 (x.size : Nat)) := ((HS.out.still (HOA.out.trans H1.out.2 (fun _ _ e => e))).still OB.out).c1
   obtain ⟨wr, hwr⟩ : ∃ q, q = WB.alloc (.cells #[.int .i64 (sz : Nat)] 3) := ⟨_, rfl⟩
   have HWR : Hid (wr = WB.alloc (.cells #[.int .i64 (sz : Nat)] 3)) := hwr
   have owr : Only (fun _ => False) WB wr := by rw [hwr]; exact (Only.refl _ WB).alloc _
   have HRp : Hid (Calls Tryz.prog 80 #[.slice (some ⟨WB.heap.size, 0, none⟩) 1 1, .int .i64 F] wr fun e w' => ∃ g5, e = .returned (.slice (some ⟨g5, 0, none⟩) F F) ∧ IntsAt w' (.slice (some ⟨g5, 0, none⟩) F F) (List.replicate F sz) ∧ Only (fun _ => False) WB w') := by
    have hx : wr.cell? ⟨WB.heap.size, 0, none⟩ = some (.int .i64 (sz : Nat)) := by rw [hwr, cell_of_row _ _ _ _ _ _ (heap_alloc_new WB _)]; rfl
    refine (repeat_any sz F WB.heap.size (by omega) wr hx).mono ?_
    rintro e w' ⟨rfl, hb, ho⟩
    exact ⟨_, rfl, hb.ints, owr.trans ho (fun _ _ e => e)⟩
   clear hwr owr hsze
   go_wp2_with fail
   rw [← HWR.out]
   refine (show Calls Tryz.prog 80 _ _ _ from HRp.out).mono ?_
   rintro e W5 ⟨g5, rfl, hi5, ho5⟩
   clear HRp c1' e1
   have O5 : Hid (Only (fun _ => False) w1 W5) := OB.out.trans ho5 (fun _ _ e => e)
   have HPA : Hid (Calls Tryz.prog 79 _ _ _) := HPl.out W5 (List.replicate F sz) (some ⟨g5, 0, none⟩) F O5.out hi5 (by simp) (fun a ha => by rw [List.eq_of_mem_replicate ha, HSZ.out]; omega)
   have HAA : Hid (List.replicate F sz = plA x) := by
    have hn := NOT.out
    have e1 := HSZ.out
    have e2 := HF.out
    show List.replicate F sz = plA x
    unfold plA
    rw [if_neg hn, e1, e2]
   clear hi5 ho5
   go_wp2_with fail
   refine (show Calls Tryz.prog 79 _ _ _ from HPA.out).mono ?_
   rintro e WE ⟨m, a3, c3, rfl, HPO⟩
   clear HPA
   have OE : Hid (Only (fun _ => False) wa WE) := (H1.out.2.trans O5.out (fun _ _ e => e)).trans HPO.out.2.2.2 (fun _ _ e => e)
   obtain ⟨AA, hAA⟩ : ∃ q, q = List.replicate F sz := ⟨_, rfl⟩
   rw [← hAA] at HPO HAA ⊢
   clear hAA
   have oE : Only (fun _ => False) wa WE := OE.out
   have hrs : WE.heap[w.heap.size]? = some (.cells #[.slice none 0 0, .map none, .slice none 0 0] 105 (0, 0)) := by rw [oE.block _ (by omega) (fun e => e)]; exact HRA.out
   have r0 : WE.cell? ⟨w.heap.size, 0, none⟩ = some (.slice none 0 0) := by rw [cell_of_row _ _ _ _ _ _ hrs]; rfl
   have r1 : WE.cell? ⟨w.heap.size, 1, none⟩ = some (.map none) := by rw [cell_of_row _ _ _ _ _ _ hrs]; rfl
   have r2 : WE.cell? ⟨w.heap.size, 2, none⟩ = some (.slice none 0 0) := by rw [cell_of_row _ _ _ _ _ _ hrs]; rfl
   have z0 := frozen_of_row _ _ 0 _ _ hrs
   have z1 := frozen_of_row _ _ 1 _ _ hrs
   have z2 := frozen_of_row _ _ 2 _ _ hrs
   have HRS : Hid _ := hrs
   clear oE hrs
   go_wp2
   clear r0 r1 r2 z0 z1 z2
   refine bodyPost_ret (results_cell_row rfl _ _ w.heap.size 105 _ _ _ rfl (row_set3 HRS.out _ _ _) Tryz.underlying105 rfl (by kernel_rfl)) rfl ?_
   exact HEND.out AA m a3 c3 W5 WE O5.out HPO HAA.out
end Go.Proofs.YtlcglapcmdpkfaaGreat
