/- What Commit does. On a disk that never dies a commit's writes are all carried out; a store with its disk. How a script that comes in lies in memory. -/
import Derived.Test.YtpoakkdkibameabGal
import Derived.ProofKit
import Derived.SizedLaws
import Derived.Deep.Slices
import Derived.Deep.Grids
namespace Go.Proofs.Ytpoakkdkibameab
open Go.RowKit Go.Maps Go.Shelf
set_option linter.unusedSimpArgs false
set_option linter.unusedVariables false

/-- v[f:] -/
theorem slice_from (g k c f : Nat) (hf : f ≤ k) (hc : k ≤ c) : ∃ a2 c2, (∀ w, (Instr.slice 41 (.slice (some ⟨g, 0, none⟩) k c) (some (.int .i64 (f : Nat))) none none).run Try.prog w = .ok (.slice a2 (k - f) c2) w) ∧ (a2 = some ⟨g, f, none⟩ ∨ k = f ∧ a2 = some ⟨g, 0, none⟩) ∧ k - f ≤ c2 := by
  have k0 : (0 : Int) ≤ (f : Int) := by omega
  have k1 : (f : Int) ≤ (k : Int) := by omega
  have kc : (k : Int) ≤ (c : Int) := by omega
  have k2 : (f : Int) ≤ (c : Int) := by omega
  have e1 : ((k : Int) - (f : Int)).toNat = k - f := by omega
  have e2 : ((c : Int) - (f : Int)).toNat = c - f := by omega
  by_cases e : c = f
  · have ek : k = f := by omega
    subst e ek
    exact ⟨some ⟨g, 0, none⟩, 0, fun w => by go_simp, .inr ⟨rfl, rfl⟩, by omega⟩
  · have ec : ¬ c - f = 0 := by omega
    have ec2 : ¬ c = f := e
    refine ⟨some ⟨g, f, none⟩, c - f, fun w => ?_, .inl rfl, by omega⟩
    go_simp
theorem slice_none (w : World) : (Instr.slice 41 (.slice none 0 0) (some (.int .i64 0)) none none).run Try.prog w = .ok (.slice none 0 0) w := by kernel_rfl
/-- The pages of the tables behind those of the data. -/
theorem slice_fresh {w : World} {B : Nat} {v : Value} {zs : List Nat} (h : FreshI w B v zs) (f : Nat) (hf : f ≤ zs.length) : ∃ a2 c2, (∀ w', (Instr.slice 41 v (some (.int .i64 (f : Nat))) none none).run Try.prog w' = .ok (.slice a2 (zs.length - f) c2) w') ∧ IntsAt w (.slice a2 (zs.length - f) c2) (zs.drop f) ∧ ∀ b, (Value.slice a2 (zs.length - f) c2).ownBlock = some b → v.ownBlock = some b := by
  rcases h.1.2 with ⟨rfl, h0⟩ | ⟨g, cap, cur, rfl, hB, hg, hcap, _, _, _⟩
  · have f0 : f = 0 := by omega
    subst f0
    refine ⟨none, 0, fun w' => by rw [h0]; exact slice_none w', ?_, fun b e => by cases e⟩
    rw [h0]
    exact .inl ⟨rfl, by simp [h0]⟩
  · have hcap' : zs.length ≤ cap := by simpa using hcap
    obtain ⟨a2, c2, hr, ha, hc⟩ := slice_from g zs.length cap f hf hcap'
    refine ⟨a2, c2, hr, ?_, fun b e => ?_⟩
    · have hl : (zs.drop f).length = zs.length - f := List.length_drop ..
      unfold IntsAt
      rw [hl]
      rcases ha with rfl | ⟨e, rfl⟩
      · refine .inr ⟨⟨g, f, none⟩, c2, rfl, hc, fun j hj => ?_⟩
        rw [Addr.add_mid, h.1.cellAt (f + j) (by omega)]
        rw [IL_get zs (f + j) (by omega)]
        simp [List.getD]
      · exact .inr ⟨⟨g, 0, none⟩, c2, rfl, hc, fun j hj => by omega⟩
    · rcases ha with rfl | ⟨_, rfl⟩
      · exact e
      · exact e

theorem range_sets {w : World} {s : Nat} {v0 v1 v2 v3 v4 v5 v6 : Value} (h : w.rangeAt s 0 [v0, v1, v2, v3, v4, v5, v6]) (ht : w.there s 0 7) (u2 u3 u4 : Value) :
    (((w.setCell ⟨s, 2, none⟩ u2).setCell ⟨s, 3, none⟩ u3).setCell ⟨s, 4, none⟩ u4).rangeAt s 0 [v0, v1, u2, u3, u4, v5, v6] ∧ (((w.setCell ⟨s, 2, none⟩ u2).setCell ⟨s, 3, none⟩ u3).setCell ⟨s, 4, none⟩ u4).there s 0 7 := by
  have r1 := range_set h (j := 2) (by simp) u2
  have t1 := there_set ht (h 2 _ rfl) u2
  have r2 := range_set r1 (j := 3) (by simp) u3
  have t2 := there_set t1 (r1 3 _ rfl) u3
  have r3 := range_set r2 (j := 4) (by simp) u4
  have t3 := there_set t2 (r2 4 _ rfl) u4
  exact ⟨r3, t3⟩
theorem only_sets (W : World) (g : Nat) : ∀ (l : List (Nat × Value)), Only (fun b => b = g) W (l.foldl (fun w q => w.setCell ⟨g, q.1, none⟩ q.2) W) := by
  intro l
  have key : ∀ (l : List (Nat × Value)) (V : World), Only (fun b => b = g) W V → Only (fun b => b = g) W (l.foldl (fun w q => w.setCell ⟨g, q.1, none⟩ q.2) V) := by
    intro l
    induction l with
    | nil => exact fun V h => h
    | cons q l ih => exact fun V h => ih _ (h.setCell ⟨g, q.1, none⟩ q.2 (fun _ => rfl))
  exact key l W (Only.refl _ W)
/-- A store that is dead. -/
theorem dead_set {w : World} {s : Nat} {v0 : Value} (h : w.cell? ⟨s, 0, none⟩ = some v0) (u1 u2 u3 u4 u5 u6 : Value) :
    (((((((w.setCell ⟨s, 0, none⟩ (.pointer none)).setCell ⟨s, 1, none⟩ u1).setCell ⟨s, 2, none⟩ u2).setCell ⟨s, 3, none⟩ u3).setCell ⟨s, 4, none⟩ u4).setCell ⟨s, 5, none⟩ u5).setCell ⟨s, 6, none⟩ u6).cell? ⟨s, 0, none⟩ = some (.pointer none) ∧
    Only (fun b => b = s) w (((((((w.setCell ⟨s, 0, none⟩ (.pointer none)).setCell ⟨s, 1, none⟩ u1).setCell ⟨s, 2, none⟩ u2).setCell ⟨s, 3, none⟩ u3).setCell ⟨s, 4, none⟩ u4).setCell ⟨s, 5, none⟩ u5).setCell ⟨s, 6, none⟩ u6) := by
  refine ⟨?_, only_sets w s [(0, .pointer none), (1, u1), (2, u2), (3, u3), (4, u4), (5, u5), (6, u6)]⟩
  rw [World.cell?_setCell_other _ _ _ _ (by simp), World.cell?_setCell_other _ _ _ _ (by simp), World.cell?_setCell_other _ _ _ _ (by simp), World.cell?_setCell_other _ _ _ _ (by simp), World.cell?_setCell_other _ _ _ _ (by simp), World.cell?_setCell_other _ _ _ _ (by simp), World.cell?_setCell_same _ _ _ h]

/-- What Commit answers, and what it leaves. -/
def CmIs (x : SS) (d : DS) (w : World) (B p S s : Nat) (pv : Value) (e : Ending) (w' : World) : Prop :=
  (freeN x x.size < needN x ∧ e = .returned (.int .i64 7) ∧ Only (fun _ => False) w w') ∨
  (needN x ≤ freeN x x.size ∧ (cmX x d).1 ≠ 0 ∧ e = .returned (.int .i64 3) ∧ ∃ pv', DiskAt w' B p S pv' (cmX x d).2 ∧ w'.cell? ⟨s, 0, none⟩ = some (.pointer none) ∧ Only (fun k => diskB p S pv k ∨ k = s) w w' ∧ (∀ b, pv'.ownBlock = some b → pv.ownBlock = some b ∨ w.heap.size ≤ b)) ∨
  (needN x ≤ freeN x x.size ∧ (cmX x d).1 = 0 ∧ e = .returned (.int .i64 0) ∧ ∃ pv' mc' mn' tv', DiskAt w' B p S pv' (cmX x d).2 ∧ StAt w' (diskB p S pv') s p mc' mn' tv' x.next ∧ Only (fun k => diskB p S pv k ∨ k = s) w w' ∧ (∀ b, pv'.ownBlock = some b → pv.ownBlock = some b ∨ w.heap.size ≤ b) ∧ w.heap.size ≤ mc' ∧ w.heap.size ≤ mn')
set_option maxRecDepth 100000 in
set_option maxHeartbeats 2000000 in
theorem commit_any {w : World} {s p mc mn S B : Nat} {tv pv : Value} {x : SS} {d : DS} (h : StAt w (diskB p S pv) s p mc mn tv x) (hd : DiskAt w B p S pv d) (hB : B ≤ w.heap.size) (hb : ByteD d) (hg : Good d) (hp : d.pend.length ≤ 100000) :
    Calls Try.prog 17 #[.pointer (some ⟨s, 0, none⟩)] w fun e w' => Hid (CmIs x d w B p S s pv e w') := by
  have hlt := hd.lt
  have hd0 : ∀ k, diskB p S pv k → k < w.heap.size := fun k hk => (hlt k hk).2
  have HU := usable_ok s p w h.c0
  have HPl : Hid (Calls Try.prog 35 _ _ _) := plan_any h hd0
  have HS : Hid (StAt w (diskB p S pv) s p mc mn tv x) := h
  have HD : Hid (DiskAt w B p S pv d) := hd
  have hwf := h.wf
  have hnl := st_len h
  have hT := tab_small hwf hnl (plA_small hwf)
  have hP := putN_le x
  obtain ⟨T, hTe⟩ : ∃ T, T = (tabB (layP x.now (plA x))).length := ⟨_, rfl⟩
  obtain ⟨F, hF⟩ : ∃ q, q = putN x := ⟨_, rfl⟩
  obtain ⟨nd, hnd⟩ : ∃ q, q = needN x := ⟨_, rfl⟩
  have HE : Hid (F = putN x ∧ nd = needN x ∧ T = (tabB (layP x.now (plA x))).length) := ⟨hF, hnd, hTe⟩
  have HNN : Hid (nd = F + tabN T) := by rw [hnd, hF, hTe]; rfl
  rw [← hTe] at hT
  rw [← hF] at hP
  have hnd4 : nd ≤ 1000 := by rw [hnd, show needN x = putN x + tabN (tabB (layP x.now (plA x))).length from rfl, ← hTe, ← hF]; unfold tabN; omega
  have hdisk : ¬ diskB p S pv s := h.k1
  have hsl := h.lt
  clear h hd hlt hTe hF hnd
  go_enter Try.func17, Try.ntmps17
  go_wp2_with (go_at_call 27; refine HU.mono ?_; rintro e w' ⟨rfl, rfl⟩)
  refine (show Calls Try.prog 35 _ _ _ from HPl.out).mono ?_
  rintro e w1 ⟨a1, c1, ml, a3, c3, rfl, HP⟩
  clear HPl HU
  rw [← HE.out.1, ← HE.out.2.2] at HP
  rw [← HE.out.1, ← HE.out.2.2]
  obtain ⟨R, hR⟩ : ∃ R, R = w1.heap.size := ⟨_, rfl⟩
  obtain ⟨wq, hwq⟩ : ∃ q, q = w1.alloc (.cells #[.slice a1 F c1, .map (some ml), .slice a3 T c3] 85) := ⟨_, rfl⟩
  have oq : Only (fun _ => False) w1 wq := by rw [hwq]; exact (Only.refl _ w1).alloc _
  have bq : wq.heap[R]? = some (.cells #[.slice a1 F c1, .map (some ml), .slice a3 T c3] 85 (0, 0)) := by rw [hwq, hR]; exact heap_alloc_new w1 _
  have HWQ : Hid (wq = w1.alloc (.cells #[.slice a1 F c1, .map (some ml), .slice a3 T c3] 85) ∧ R = w1.heap.size) := ⟨hwq, hR⟩
  have HOQ : Hid (Only (fun _ => False) w1 wq) := oq
  have HBQ : Hid (wq.heap[R]? = some (.cells #[.slice a1 F c1, .map (some ml), .slice a3 T c3] 85 (0, 0))) := bq
  have hRq : R < wq.heap.size := (Array.getElem?_eq_some_iff.1 bq).1
  clear hwq hR oq bq
  have HC4 : Hid (∀ wx, Only (fun _ => False) wq wx → wx.cell? ⟨R, 0, none⟩ = some (.slice a1 F c1) ∧ wx.cell? ⟨R, 1, none⟩ = some (.map (some ml)) ∧ wx.cell? ⟨R, 2, none⟩ = some (.slice a3 T c3)) := fun wx ho => by
    have hx : wx.heap[R]? = some (.cells #[.slice a1 F c1, .map (some ml), .slice a3 T c3] 85 (0, 0)) := by rw [ho.block R hRq (fun e => e)]; exact HBQ.out
    refine ⟨?_, ?_, ?_⟩ <;> (rw [cell_of_row _ _ _ _ _ _ hx]; rfl)
  have hsq : StAt wq (diskB p S pv) s p mc mn tv x := (HS.out.still HP.out.2.2.2.2).still HOQ.out
  have HUs : Hid (Calls Try.prog 37 #[.pointer (some ⟨s, 0, none⟩)] wq.drew fun e w2 => ∃ g, e = .returned (.slice (some ⟨g, 0, none⟩) x.size x.size) ∧ Hid (FBlk w2 g x.size (usedF x) ∧ Only (fun _ => False) wq w2)) := by
    have od : Only (fun _ => False) wq wq.drew := (Only.refl _ wq).drew
    refine (used_any (hsq.still od)).mono ?_
    rintro e w2 ⟨rfl, q1, q2⟩
    exact ⟨_, rfl, q1, od.trans q2 (fun _ _ e => e)⟩
  have HSQ : Hid (StAt wq (diskB p S pv) s p mc mn tv x) := hsq
  clear hsq
  go_wp2_with fail
  rw [← HWQ.out.1, ← HWQ.out.2]
  refine wp_region_held_drew (S := fun w2 => Only (fun _ => False) wq w2) (by kernel_rfl) ((Only.refl _ wq).drew) (fun hHeld => ?_)
  refine wpAnyH_take (i := 0) (v := .pointer (some ⟨s, 0, none⟩)) rfl (by kernel_rfl) (by kernel_rfl) (by kernel_rfl) (fun _ _ _ h => h) (Or.inl ⟨by rfl, fun wx hSw => by go_simp⟩) hHeld ?_
  simp only [Act.put, List.setIfInBounds_toArray, List.set_cons_zero, List.set_cons_succ, List.getElem_toArray, List.getElem_cons_zero, List.getElem_cons_succ]
  refine wpAnyH_take (i := 2) (v := .agg #[.slice a1 F c1, .map (some ml), .slice a3 T c3]) rfl (by kernel_rfl) (by kernel_rfl) (by kernel_rfl) (fun _ _ _ h => h) (Or.inl ⟨by rfl, fun wx hSw => by obtain ⟨q0, q1, q2⟩ := HC4.out wx hSw; go_simp⟩) hHeld ?_
  simp only [Act.put, List.setIfInBounds_toArray, List.set_cons_zero, List.set_cons_succ, List.getElem_toArray, List.getElem_cons_zero, List.getElem_cons_succ]
  refine wpAnyH_ready (rs := [1]) (by kernel_rfl) (by simp) ?_
  refine AllReadyH.cons rfl (fun K hK => ?_) AllReadyH.nil
  rw [if_pos (by rfl)]
  refine wp_call_func #[.tmp 16] #[25] rfl #[.pointer (some ⟨s, 0, none⟩)] (by simp [Act.eval]) (enters_of Try.func37 (by kernel_rfl) rfl) (show Calls Try.prog 37 _ _ _ from HUs.out) (fun e w2 he => ?_)
  obtain ⟨g, rfl, HF2⟩ := he
  refine ⟨_, rfl, hK _ _ HF2.out.2 (fun hHeld => ?_)⟩
  clear hK K HUs
  simp only [Act.put, List.setIfInBounds_toArray, List.set_cons_zero, List.set_cons_succ, List.getElem_toArray, List.getElem_cons_zero, List.getElem_cons_succ]
  have HNd : Hid (Calls Try.prog 38 #[.agg #[.slice a1 F c1, .map (some ml), .slice a3 T c3]] w2 fun e w3 => e = .returned (.int .i64 (nd : Nat)) ∧ Only (fun _ => False) w2 w3) := by
    have := need_any a1 a3 F c1 T c3 (some ml) w2 (by omega) (by omega)
    rw [← HNN.out] at this
    exact this
  refine wpAnyH_ready (rs := [3]) (by kernel_rfl) (by simp) ?_
  refine AllReadyH.cons rfl (fun K hK => ?_) AllReadyH.nil
  rw [if_pos (by rfl)]
  refine wp_call_func #[.tmp 18] #[85] rfl #[.agg #[.slice a1 F c1, .map (some ml), .slice a3 T c3]] (by simp [Act.eval]) (enters_of Try.func38 (by kernel_rfl) rfl) (show Calls Try.prog 38 _ _ _ from HNd.out) (fun e w3 he => ?_)
  obtain ⟨rfl, ho3⟩ := he
  have o3 : Only (fun _ => False) wq w3 := HF2.out.2.trans ho3 (fun _ _ e => e)
  refine ⟨_, rfl, hK _ _ o3 (fun hHeld => ?_)⟩
  clear hK K HNd
  simp only [Act.put, List.setIfInBounds_toArray, List.set_cons_zero, List.set_cons_succ, List.getElem_toArray, List.getElem_cons_zero, List.getElem_cons_succ]
  have HFi : Hid (Calls Try.prog 36 #[.slice (some ⟨g, 0, none⟩) x.size x.size, .int .i64 (nd : Nat)] w3 fun e w4 => FirstIs ((freeL x x.size).take nd) nd w3 e w4) := by
    have hf3 : FBlk w3 g x.size (usedF x) := HF2.out.1.frame ho3 (fun e => e)
    have := first_ok _ _ nd w3 (hf3.flags (by have := hwf.size; omega)) (by rw [flF_length]; have := hwf.size; omega)
    rw [fr_free_all] at this
    exact this
  have O3 : Hid (Only (fun _ => False) wq w3) := o3
  clear o3 ho3 HF2
  refine wpAnyH_ready (rs := [4]) (by kernel_rfl) (by simp) ?_
  refine AllReadyH.cons rfl (fun K hK => ?_) AllReadyH.nil
  rw [if_pos (by rfl)]
  refine wp_call_func #[.tmp 17, .tmp 19] #[81, 3] rfl #[.slice (some ⟨g, 0, none⟩) x.size x.size, .int .i64 (nd : Nat)] (by simp [Act.eval]) (enters_of Try.func36 (by kernel_rfl) rfl) (show Calls Try.prog 36 _ _ _ from HFi.out) (fun e w4 he => ?_)
  clear HFi
  rcases he with ⟨hl, rfl, ho4⟩ | ⟨heq, u, rfl, hu, ho4⟩
  · have o4 : Only (fun _ => False) wq w4 := O3.out.trans ho4 (fun _ _ e => e)
    refine ⟨_, rfl, hK _ _ o4 (fun hHeld => ?_)⟩
    clear hK K
    simp only [Act.put, List.setIfInBounds_toArray, List.set_cons_zero, List.set_cons_succ, List.getElem_toArray, List.getElem_cons_zero, List.getElem_cons_succ]
    refine wpAnyH_take (i := 5) (v := .tuple #[.slice none 0 0, .int .i64 7]) rfl (by kernel_rfl) (by kernel_rfl) (by kernel_rfl) (fun _ _ _ h => h) (Or.inl ⟨by rfl, fun wx hSw => by go_simp⟩) hHeld ?_
    simp only [Act.put, List.setIfInBounds_toArray, List.set_cons_zero, List.set_cons_succ, List.getElem_toArray, List.getElem_cons_zero, List.getElem_cons_succ]
    refine wpAnyH_take (i := 6) (v := .slice none 0 0) rfl (by kernel_rfl) (by kernel_rfl) (by kernel_rfl) (fun _ _ _ h => h) (Or.inl ⟨by rfl, fun wx hSw => by go_simp⟩) hHeld ?_
    simp only [Act.put, List.setIfInBounds_toArray, List.set_cons_zero, List.set_cons_succ, List.getElem_toArray, List.getElem_cons_zero, List.getElem_cons_succ]
    refine wpAnyH_take (i := 8) (v := .slice none 0 0) rfl (by kernel_rfl) (by kernel_rfl) (by kernel_rfl) (fun _ _ _ h => h) (Or.inl ⟨by rfl, fun wx hSw => by go_simp⟩) hHeld ?_
    simp only [Act.put, List.setIfInBounds_toArray, List.set_cons_zero, List.set_cons_succ, List.getElem_toArray, List.getElem_cons_zero, List.getElem_cons_succ]
    refine wpAnyH_take (i := 7) (v := .int .i64 7) rfl (by kernel_rfl) (by kernel_rfl) (by kernel_rfl) (fun _ _ _ h => h) (Or.inl ⟨by rfl, fun wx hSw => by go_simp⟩) hHeld ?_
    simp only [Act.put, List.setIfInBounds_toArray, List.set_cons_zero, List.set_cons_succ, List.getElem_toArray, List.getElem_cons_zero, List.getElem_cons_succ]
    refine wpAnyH_take (i := 9) (v := .int .i64 7) rfl (by kernel_rfl) (by kernel_rfl) (by kernel_rfl) (fun _ _ _ h => h) (Or.inl ⟨by rfl, fun wx hSw => by go_simp⟩) hHeld ?_
    simp only [Act.put, List.setIfInBounds_toArray, List.set_cons_zero, List.set_cons_succ, List.getElem_toArray, List.getElem_cons_zero, List.getElem_cons_succ]
    refine wpAnyH_done (by kernel_rfl) ?_ _
    have HQ : Hid (CmIs x d w' B p S s pv (.returned (.int .i64 7)) w4) := by
      refine .inl ⟨?_, rfl, (HP.out.2.2.2.2.trans HOQ.out (fun _ _ e => e)).trans o4 (fun _ _ e => e)⟩
      rw [List.length_take, freeL_len] at hl
      have := HE.out.2.1
      omega
    clear o4 ho4 hl hHeld
    go_wp2
    go_ret
    exact HQ.out
  · have o4 : Only (fun _ => False) wq w4 := O3.out.trans ho4 (fun _ _ e => e)
    refine ⟨_, rfl, hK _ _ o4 (fun hHeld => ?_)⟩
    clear hK K
    simp only [Act.put, List.setIfInBounds_toArray, List.set_cons_zero, List.set_cons_succ, List.getElem_toArray, List.getElem_cons_zero, List.getElem_cons_succ]
    refine wpAnyH_take (i := 5) (v := .tuple #[u, .int .i64 0]) rfl (by kernel_rfl) (by kernel_rfl) (by kernel_rfl) (fun _ _ _ h => h) (Or.inl ⟨by rfl, fun wx hSw => by go_simp⟩) hHeld ?_
    simp only [Act.put, List.setIfInBounds_toArray, List.set_cons_zero, List.set_cons_succ, List.getElem_toArray, List.getElem_cons_zero, List.getElem_cons_succ]
    refine wpAnyH_take (i := 6) (v := u) rfl (by kernel_rfl) (by kernel_rfl) (by kernel_rfl) (fun _ _ _ h => h) (Or.inl ⟨by rfl, fun wx hSw => by go_simp⟩) hHeld ?_
    simp only [Act.put, List.setIfInBounds_toArray, List.set_cons_zero, List.set_cons_succ, List.getElem_toArray, List.getElem_cons_zero, List.getElem_cons_succ]
    refine wpAnyH_take (i := 8) (v := u) rfl (by kernel_rfl) (by kernel_rfl) (by kernel_rfl) (fun _ _ _ h => h) (Or.inl ⟨by rfl, fun wx hSw => by go_simp⟩) hHeld ?_
    simp only [Act.put, List.setIfInBounds_toArray, List.set_cons_zero, List.set_cons_succ, List.getElem_toArray, List.getElem_cons_zero, List.getElem_cons_succ]
    refine wpAnyH_take (i := 7) (v := .int .i64 0) rfl (by kernel_rfl) (by kernel_rfl) (by kernel_rfl) (fun _ _ _ h => h) (Or.inl ⟨by rfl, fun wx hSw => by go_simp⟩) hHeld ?_
    simp only [Act.put, List.setIfInBounds_toArray, List.set_cons_zero, List.set_cons_succ, List.getElem_toArray, List.getElem_cons_zero, List.getElem_cons_succ]
    refine wpAnyH_take (i := 9) (v := .int .i64 0) rfl (by kernel_rfl) (by kernel_rfl) (by kernel_rfl) (fun _ _ _ h => h) (Or.inl ⟨by rfl, fun wx hSw => by go_simp⟩) hHeld ?_
    simp only [Act.put, List.setIfInBounds_toArray, List.set_cons_zero, List.set_cons_succ, List.getElem_toArray, List.getElem_cons_zero, List.getElem_cons_succ]
    refine wpAnyH_done (by kernel_rfl) ?_ _
    obtain ⟨a2, c2, hsl2, hi2, hob2⟩ := slice_fresh hu F (by rw [heq]; have := HNN.out; omega)
    rw [heq] at hsl2 hi2 hob2
    have hcs := HC4.out w4 o4
    obtain ⟨q0, q1, q2⟩ := hcs
    obtain ⟨au, cu, rfl, _⟩ := hu.form
    rw [heq] at hsl2 hob2 hu ⊢
    have O4 : Hid (Only (fun _ => False) wq w4) := o4
    have HU2 : Hid (∀ b, (Value.slice a2 (nd - F) c2).ownBlock = some b → w3.heap.size ≤ b ∧ b < w4.heap.size) := fun b e => hu.1.lt b (hob2 b e)
    have HI2 : Hid (IntsAt w4 (.slice a2 (nd - F) c2) (((freeL x x.size).take nd).drop F)) := hi2
    clear hHeld
    have HWr : Hid (Calls Try.prog 39 #[.pointer (some ⟨s, 0, none⟩), .agg #[.slice a1 F c1, .map (some ml), .slice a3 T c3], .slice a2 (nd - F) c2] w4 fun e w5 => e = .returned (.int .i64 (cmX x d).1) ∧ Hid (WrIs w4 B p S pv (cmX x d) e w5)) := by
      obtain ⟨p1, p2, p3, p4, p5⟩ := HP.out
      have o14 : Only (fun _ => False) w1 w4 := HOQ.out.trans O4.out (fun _ _ e => e)
      have hs4 : StAt w4 (diskB p S pv) s p mc mn tv x := HSQ.out.still O4.out
      have ow4 : Only (fun _ => False) w' w4 := p5.trans o14 (fun _ _ e => e)
      have s4 := ow4.size
      have s14 := o14.size
      have hfit : needN x ≤ freeN x x.size := by
        rw [List.length_take, freeL_len] at heq
        have := HE.out.2.1
        omega
      have htl : tbs x = ((freeL x x.size).take nd).drop F := by unfold tbs; rw [HE.out.1, HE.out.2.1]
      have htn := tbs_length hfit
      have e1 : (freshN x.now).length = F := HE.out.1.symm
      have e2 : (tabB (laid x)).length = T := HE.out.2.2.symm
      have e3 : (tbs x).length = nd - F := by rw [htl, List.length_drop, heq]
      have h1 : IntsAt w4 (.slice a1 (freshN x.now).length c1) (freshN x.now) := by rw [e1]; exact (p1.frame o14).ints
      have h2 : BytesAt w4 (.slice a3 (tabB (laid x)).length c3) (tabB (laid x)) := by rw [e2]; exact (p4.frame o14).bytes
      have h3 : IntsAt w4 (.slice a2 (tbs x).length c2) (tbs x) := by rw [e3, htl]; exact HI2.out
      have nd0 : ∀ b, w'.heap.size ≤ b → ¬ diskB p S pv b := fun b hb' e => by have := hd0 b e; omega
      have key := swrite_core hs4 (HD.out.frame ow4 (fun _ _ e => e)) (by omega) hb hg hp a1 a3 a2 c1 c3 c2 (freshN x.now) (tabB (laid x)) (tbs x) (laid x) (ml := ml) h1
        (fun b e => by rw [e1] at e; have := p1.1.lt b e; exact ⟨by omega, nd0 b this.1⟩) (by omega)
        (p3.frame o14 (fun e => e) (fun _ _ e => e.elim) (fun k _ e => .inl e)) (nd0 ml p2)
        (fun i hi => by
          obtain ⟨dt, hm⟩ := (freshN_mem (fun p hp => (hwf.now p hp).1.1)).1 hi
          have := (hwf.now _ hm).1
          simp only at this
          omega)
        h2 (fun b e => by rw [e2] at e; have := p4.1.lt b e; exact ⟨by omega, nd0 b this.1⟩) (by omega)
        h3 (fun b e => by rw [e3] at e; have := hu.1.lt b (hob2 b e); exact ⟨this.2, nd0 b (by have := O3.out.size; have := HOQ.out.size; have := p5.size; omega)⟩) htn
        (fun t ht => by have := ((next_wf hwf hfit).tabs.2 t ht).2; have := hwf.size; have e9 : x.next.size = x.size := rfl; omega)
      rw [e1, e2, e3] at key
      refine key.mono ?_
      rintro e w5 hw
      exact ⟨hw.out.1, hw.out⟩
    obtain ⟨r, hr⟩ : ∃ r, r = cmX x d := ⟨_, rfl⟩
    have HR : Hid (r = cmX x d) := hr
    rw [← hr] at HWr
    clear hr hu hi2 ho4 o4
    go_wp2_with fail
    refine (show Calls Try.prog 39 _ _ _ from HWr.out).mono ?_
    rintro e w5 ⟨rfl, HW5⟩
    clear HWr q0 q1 q2 hsl2
    obtain ⟨_, pv5, hd5, ho5, hp5⟩ := HW5.out
    have hs5 : StAt w5 (diskB p S pv) s p mc mn tv x := (HSQ.out.still O4.out).frame ho5 (fun _ _ e => e) (fun _ _ e => e)
    have c0 := hs5.c0
    have c1' := hs5.c1
    have c2' := hs5.c2
    have c3' := hs5.c3
    have c4' : w5.cell? ⟨s, 4, none⟩ = some tv := hs5.cells 4 _ rfl
    have c5' := hs5.c5
    have c6' := hs5.c6
    have f0 := hs5.fz 0 (by omega)
    have f1 := hs5.fz 1 (by omega)
    have f2 := hs5.fz 2 (by omega)
    have f3 := hs5.fz 3 (by omega)
    have f4 := hs5.fz 4 (by omega)
    have f5 := hs5.fz 5 (by omega)
    have f6 := hs5.fz 6 (by omega)
    have HS5 : Hid (StAt w5 (diskB p S pv) s p mc mn tv x ∧ DiskAt w5 B p S pv5 r.2 ∧ Only (diskB p S pv) w4 w5 ∧ ∀ b, pv5.ownBlock = some b → pv.ownBlock = some b ∨ w4.heap.size ≤ b) := ⟨hs5, hd5, ho5, hp5⟩
    have hfit : Hid (needN x ≤ freeN x x.size) := by
      rw [List.length_take, freeL_len] at heq
      have := HE.out.2.1
      show needN x ≤ freeN x x.size
      omega
    clear hs5 hd5 ho5 hp5 HW5
    by_cases hz : r.1 = 0
    · obtain ⟨E, hE⟩ : ∃ E, E = (x.epoch + 1) % 18446744073709551616 := ⟨_, rfl⟩
      have hEp := hwf.epoch
      have eE : IntKind.u64.wrap ((x.epoch : Int) + 1) = (E : Int) := by rw [IntKind.wrap_u64, hE]; omega
      have hsec : x.sector ≤ 4 := by have := hwf.sector; omega
      obtain ⟨q, hq⟩ : ∃ q, q = 4 - x.sector := ⟨_, rfl⟩
      have HEQ : Hid (E = (x.epoch + 1) % 18446744073709551616 ∧ q = 4 - x.sector) := ⟨hE, hq⟩
      have HOt : Hid (∀ W, W.cell? ⟨s, 3, none⟩ = some (.int .i64 (x.sector : Nat)) → Calls Try.prog 40 #[.pointer (some ⟨s, 0, none⟩)] W fun e W2 => e = .returned (.int .i64 (q : Nat)) ∧ W2 = W) := fun W hW => by rw [hq]; exact other_raw s x.sector W hW hsec
      obtain ⟨p1, p2, p3, p4, p5⟩ := HP.out
      obtain ⟨g1, g2, g3, g4⟩ := HS5.out
      have o14 : Only (fun _ => False) w1 w4 := HOQ.out.trans O4.out (fun _ _ e => e)
      have o15 : Only (diskB p S pv) w1 w5 := (o14.mono (fun _ _ e => e.elim)).trans g3 (fun _ _ e => e)
      have hmls : ml ≠ s := by omega
      have hRs : R ≠ s := by have := HWQ.out.2; have := p5.size; omega
      have hRd : ¬ diskB p S pv R := fun e => by have := hd0 R e; have := HWQ.out.2; have := p5.size; omega
      have hmd : ¬ diskB p S pv ml := fun e => by have := hd0 ml e; omega
      have qR : w5.cell? ⟨R, 1, none⟩ = some (.map (some ml)) := g3.cell ((HC4.out w4 O4.out).2.1) hRd
      obtain ⟨sl, hm, hbd⟩ := p3
      have hm5 : MapAt w5 ml ((laid x).map fun p => (p.1, pgV sl p)) := hm.frame o15 hmd
      obtain ⟨rs, ts⟩ := range_sets g1.cells g1.there (.int .u64 (E : Nat)) (.int .i64 (q : Nat)) (.slice a2 (nd - F) c2)
      have os : Only (fun b => b = s) w5 (((w5.setCell ⟨s, 2, none⟩ (.int .u64 (E : Nat))).setCell ⟨s, 3, none⟩ (.int .i64 (q : Nat))).setCell ⟨s, 4, none⟩ (.slice a2 (nd - F) c2)) := only_sets w5 s [(2, .int .u64 (E : Nat)), (3, .int .i64 (q : Nat)), (4, .slice a2 (nd - F) c2)]
      have HTk : Hid (Calls Try.prog 34 _ _ _) := take_any s ml _ _ _ _ _ _ _ _ _ rs ts (hm5.frame os hmls)
      have HFin : Hid (∀ W10, (W10.rangeAt s 0 [.pointer (some ⟨p, 0, none⟩), .int .i64 (x.size : Nat), .int .u64 (E : Nat), .int .i64 (q : Nat), .slice a2 (nd - F) c2, .map (some ml), .map (some (((w5.setCell ⟨s, 2, none⟩ (.int .u64 (E : Nat))).setCell ⟨s, 3, none⟩ (.int .i64 (q : Nat))).setCell ⟨s, 4, none⟩ (.slice a2 (nd - F) c2)).heap.size)] ∧ W10.there s 0 7 ∧ MapAt W10 (((w5.setCell ⟨s, 2, none⟩ (.int .u64 (E : Nat))).setCell ⟨s, 3, none⟩ (.int .i64 (q : Nat))).setCell ⟨s, 4, none⟩ (.slice a2 (nd - F) c2)).heap.size ((laid x).map fun p => (p.1, pgV sl p)) ∧ MapAt W10 ml ((laid x).map fun p => (p.1, pgV sl p)) ∧ Only (fun k => k = s) (((w5.setCell ⟨s, 2, none⟩ (.int .u64 (E : Nat))).setCell ⟨s, 3, none⟩ (.int .i64 (q : Nat))).setCell ⟨s, 4, none⟩ (.slice a2 (nd - F) c2)) W10) → CmIs x d w' B p S s pv (.returned (.int .i64 0)) W10) := by
        rintro W10 ⟨z1, z2, z3, z4, z5⟩
        have hs9 := os.size
        obtain ⟨W9, hW9⟩ : ∃ V, V = ((w5.setCell ⟨s, 2, none⟩ (.int .u64 (E : Nat))).setCell ⟨s, 3, none⟩ (.int .i64 (q : Nat))).setCell ⟨s, 4, none⟩ (.slice a2 (nd - F) c2) := ⟨_, rfl⟩
        rw [← hW9] at z1 z3 z5 os hs9
        have o10 : Only (fun b => b = s) w5 W10 := os.trans z5 (fun _ _ e => e)
        have s14 := o14.size
        have s5 := g3.size
        have sp := p5.size
        have ow4 : Only (fun _ => False) w' w4 := p5.trans o14 (fun _ _ e => e)
        have o410 : Only (fun k => diskB p S pv k ∨ k = s) w4 W10 := (g3.mono (fun _ _ e => .inl e)).trans (o10.mono (fun _ _ e => .inr e)) (fun _ _ e => e)
        have oAll : Only (fun k => diskB p S pv k ∨ k = s) w' W10 := (ow4.mono (fun _ _ e => e.elim)).trans o410 (fun _ _ e => e)
        have hls := z3.lt
        have hdn : ∀ b, diskB p S pv5 b → diskB p S pv b ∨ w4.heap.size ≤ b := fun b e => by
          rcases e with e | e | e
          · exact .inl (.inl e)
          · exact .inl (.inr (.inl e))
          · rcases g4 b e with e | e
            · exact .inl (.inr (.inr e))
            · exact .inr e
        have hdl : ∀ b, diskB p S pv5 b → b < w5.heap.size := fun b e => (g2.lt b e).2
        have hd10 : DiskAt W10 B p S pv5 r.2 := g2.frame o10 (fun b e e' => by
          rcases hdn b e with e | e
          · exact hdisk (e' ▸ e)
          · omega)
        have hown : ∀ b, pv5.ownBlock = some b → pv.ownBlock = some b ∨ w'.heap.size ≤ b := fun b e => by
          rcases g4 b e with e | e
          · exact .inl e
          · exact .inr (by omega)
        have hfit' := hfit.out
        have htl : tbs x = ((freeL x x.size).take nd).drop F := by unfold tbs; rw [HE.out.1, HE.out.2.1]
        have e3 : (tbs x).length = nd - F := by rw [htl, List.length_drop, heq]
        have hub : ∀ b, (Value.slice a2 (nd - F) c2).ownBlock = some b → w3.heap.size ≤ b ∧ b < w4.heap.size := fun b e => HU2.out b e
        have s3 := O3.out.size
        have sq := HOQ.out.size
        have mlt : ml < w4.heap.size := by have := hm.lt; omega
        refine .inr (.inr ⟨hfit', by rw [← HR.out]; exact hz, rfl, pv5, ml, W9.heap.size, .slice a2 (nd - F) c2, by rw [← HR.out]; exact hd10, ?_, oAll, hown, p2, by omega⟩)
        have pg : ∀ p' ∈ laid x, BytesAt W10 (sl p'.1) p'.2.2 ∧ ∀ b, (sl p'.1).ownBlock = some b → b < W10.heap.size ∧ ¬ mutB (diskB p S pv5) s ml W9.heap.size b := fun p' hp' => by
          obtain ⟨y1, y2⟩ := hbd p' hp'
          have yb : ∀ b, (sl p'.1).ownBlock = some b → b < w'.heap.size ∧ ¬ mutB (diskB p S pv) s mc mn b := fun b e => by
            have := (y2 b e).2
            exact ⟨Nat.lt_of_not_le (fun e' => this (.inr e')), fun e' => this (.inl e')⟩
          refine ⟨(y1.keep o14 (fun _ _ e => e)).keep o410 (fun b e e' => ?_), fun b e => ⟨by have := (yb b e).1; have := oAll.size; omega, fun e' => ?_⟩⟩
          · rcases e' with e' | e'
            · exact (yb b e).2 (.inr (.inr (.inr e')))
            · exact (yb b e).2 (.inl e')
          · have hb1 := (yb b e).1
            rcases e' with e' | e' | e' | e'
            · exact (yb b e).2 (.inl e')
            · omega
            · omega
            · rcases hdn b e' with e' | e'
              · exact (yb b e).2 (.inr (.inr (.inr e')))
              · omega
        exact { cells := by
                  have e1 := HEQ.out.1
                  have e2 := HEQ.out.2
                  show W10.rangeAt s 0 [.pointer (some ⟨p, 0, none⟩), .int .i64 (x.size : Nat), .int .u64 (((x.epoch + 1) % 18446744073709551616 : Nat) : Int), .int .i64 ((4 - x.sector : Nat) : Int), .slice a2 (nd - F) c2, .map (some ml), .map (some W9.heap.size)]
                  rw [← e1, ← e2]
                  exact z1
                there := z2, d1 := fun e => hmls e.symm, d2 := by omega, d3 := by omega
                k1 := fun e => by
                  rcases hdn s e with e | e
                  · exact hdisk e
                  · omega
                k2 := fun e => by
                  rcases hdn ml e with e | e
                  · exact hmd e
                  · omega
                k3 := fun e => by have := hdl _ e; omega
                tabs := by
                  show RowAt W10 (.slice a2 (nd - F) c2) (tbs x).length 1 (fun j => .int .i64 ((tbs x).getD j 0 : Nat))
                  have := HI2.out
                  rw [← htl] at this
                  refine RowAt.keep this o410 (fun b e e' => ?_)
                  have hb1 := hub b e
                  rcases e' with e' | e'
                  · have := hd0 b e'; omega
                  · omega
                tabsB := fun b e => by
                  have hb1 := hub b e
                  refine ⟨by have := o410.size; omega, fun e' => ?_⟩
                  rcases e' with e' | e' | e' | e'
                  · omega
                  · have := hm.lt; omega
                  · omega
                  · rcases hdn b e' with e' | e'
                    · have := hd0 b e'; omega
                    · omega
                com := ⟨sl, z4, pg⟩, now := ⟨sl, z3, pg⟩, wf := next_wf hwf hfit' }
      clear p1 p2 p4 p5 g1 g2 g3 g4 o14 o15 hm hbd hm5 rs ts os hE hq hRd hmd heq
      go_wp2_with (first | (go_at_call 40; refine (HOt.out _ (by go_simp)).mono ?_; rintro e wz ⟨rfl, rfl⟩))
      refine (show Calls Try.prog 34 _ _ _ from HTk.out).mono ?_
      rintro e W10 ⟨rfl, hz9⟩
      have HZ9 := HFin.out W10 hz9
      have HZ : Hid (CmIs x d w' B p S s pv (.returned (.int .i64 0)) W10) := HZ9
      clear hz9 HZ9 HFin HTk
      go_wp2
      go_ret
      exact HZ.out
    · have hz' : (r.1 == 0) = false := by simpa using hz
      go_wp2
      go_ret
      obtain ⟨k1, k2⟩ := dead_set c0 (.int .i64 0) (.int .u64 0) (.int .i64 0) (.slice none 0 0) (.map none) (.map none)
      obtain ⟨g1, g2, g3, g4⟩ := HS5.out
      have ow4 : Only (fun _ => False) w' w4 := (HP.out.2.2.2.2.trans HOQ.out (fun _ _ e => e)).trans O4.out (fun _ _ e => e)
      have s4 := ow4.size
      refine .inr (.inl ⟨hfit.out, by rw [← HR.out]; exact hz, rfl, pv5, ?_, k1, ((ow4.mono (fun _ _ e => e.elim)).trans (g3.mono (fun _ _ e => .inl e)) (fun _ _ e => e)).trans (k2.mono (fun _ _ e => .inr e)) (fun _ _ e => e), fun b e => ?_⟩)
      · rw [← HR.out]
        refine g2.frame k2 (fun b e e' => ?_)
        subst e'
        rcases e with e | e | e
        · exact hdisk (.inl e)
        · exact hdisk (.inr (.inl e))
        · rcases g4 _ e with e | e
          · exact hdisk (.inr (.inr e))
          · omega
      · rcases g4 b e with e | e
        · exact .inl e
        · exact .inr (by omega)
end Go.Proofs.Ytpoakkdkibameab
namespace Go.Proofs.Ytpoakkdkibameab
open Go.RowKit Go.Maps Go.Shelf
set_option linter.unusedSimpArgs false
set_option linter.unusedVariables false

theorem write_live {d : DS} (h : d.life = -1) (k : Nat) (hk : k < d.n) (f : Nat → Int) : d.write (k : Int) f 32 = (0, { d with sec := upd d.sec k f, pend := d.pend ++ [⟨k, d.sec k, f⟩], life := -1 }) := by
  unfold DS.write
  rw [if_neg (by simp), if_neg (by omega), if_neg (by omega)]
  simp [h, aged]
theorem wr4_live {d : DS} (h : d.life = -1) (P : Nat) (hP : 4 * P + 4 ≤ d.n) (Z : List Nat) : ∀ k, k ≤ 4 → (d.wr4 P Z k).1 = 0 ∧ (d.wr4 P Z k).2.life = -1 ∧ (d.wr4 P Z k).2.n = d.n
  | 0, _ => ⟨rfl, h, rfl⟩
  | k + 1, hk => by
    obtain ⟨h1, h2, h3⟩ := wr4_live h P hP Z k (by omega)
    simp only [DS.wr4]
    rw [if_pos h1, write_live h2 (4 * P + k) (by omega)]
    exact ⟨rfl, rfl, h3⟩
theorem wpage_live {d : DS} (h : d.life = -1) (P : Nat) (hP : P < d.n / 4) (id : Nat) (D : List Nat) (hD : D.length ≤ 116) : (d.wpage (P : Int) id D).1 = 0 ∧ (d.wpage (P : Int) id D).2.life = -1 ∧ (d.wpage (P : Int) id D).2.n = d.n := by
  unfold DS.wpage
  rw [if_neg (by omega), if_neg (by omega), Int.toNat_natCast]
  exact wr4_live h P (by omega) _ 4 (Nat.le_refl _)
theorem wf_live (L : Pgs) : ∀ (l : List Nat) (r : Int × DS), r.1 = 0 → r.2.life = -1 → (∀ i ∈ l, ((pgAt L i).getD (0, [])).1 < r.2.n / 4 ∧ ((pgAt L i).getD (0, [])).2.length ≤ 116) → (l.foldl (wfStep L) r).1 = 0 ∧ (l.foldl (wfStep L) r).2.life = -1 ∧ (l.foldl (wfStep L) r).2.n = r.2.n
  | [], r, h1, h2, _ => ⟨h1, h2, rfl⟩
  | i :: l, r, h1, h2, hL => by
    obtain ⟨q1, q2⟩ := hL i (List.mem_cons_self ..)
    obtain ⟨k1, k2, k3⟩ := wpage_live h2 _ q1 (3 + 256 * i) _ q2
    have e : wfStep L r i = r.2.wpage ((((pgAt L i).getD (0, [])).1 : Nat) : Int) (3 + 256 * i) ((pgAt L i).getD (0, [])).2 := by
      unfold wfStep
      rw [if_neg (by simp [h1])]
    rw [List.foldl_cons, e]
    have ih := wf_live L l _ k1 k2 (fun j hj => by rw [k3]; exact hL j (List.mem_cons_of_mem _ hj))
    exact ⟨ih.1, ih.2.1, ih.2.2.trans k3⟩
theorem wt_live (tab at_ : List Nat) : ∀ (l : List Nat) (r : Nat × Int × DS), r.2.1 = 0 → r.2.2.life = -1 → (∀ k, at_.getD k 0 < r.2.2.n / 4) → (l.foldl (wtStep tab at_) r).2.1 = 0 ∧ (l.foldl (wtStep tab at_) r).2.2.life = -1 ∧ (l.foldl (wtStep tab at_) r).2.2.n = r.2.2.n
  | [], r, h1, h2, _ => ⟨h1, h2, rfl⟩
  | k :: l, r, h1, h2, hL => by
    obtain ⟨k1, k2, k3⟩ := wpage_live h2 _ (hL r.1) 2 (layB (at_.getD (r.1 + 1) 0) 4 ++ (tab.drop (112 * k)).take 112) (by simp [layB_length]; omega)
    have e : (wtStep tab at_ r k).2 = r.2.2.wpage ((at_.getD r.1 0 : Nat) : Int) 2 (layB (at_.getD (r.1 + 1) 0) 4 ++ (tab.drop (112 * k)).take 112) := by
      unfold wtStep
      rw [if_neg (by simp [h1])]
    rw [List.foldl_cons]
    have ih := wt_live tab at_ l (wtStep tab at_ r k) (by rw [e]; exact k1) (by rw [e]; exact k2) (fun j => by rw [e, k3]; exact hL j)
    rw [e] at ih
    exact ⟨ih.1, ih.2.1, ih.2.2.trans k3⟩
theorem byF_byt {zs : List Nat} (h : ∀ z ∈ zs, z < 256) : Byt (byF zs) := by
  intro j
  unfold byF
  simp only [List.getD]
  cases e : zs[j]? with
  | none => simp
  | some z =>
    have := h z (List.mem_of_getElem? e)
    simp
    omega
theorem keep_lives {d : DS} (h : d.life = -1) (k : Nat) (hk : k < d.n) (f : Nat → Int) : d.keep (k : Int) f = (0, ⟨d.n, upd d.sec k f, [], -1⟩) := by
  unfold DS.keep
  rw [write_live h k hk]
  simp [DS.barrier, aged]
/-- A commit on a disk that never dies. -/
theorem cm_live {x : SS} {d : DS} (hw : x.Wf) (hfit : needN x ≤ freeN x x.size) (h : d.life = -1) (hn : d.n / 4 = x.size) (hb : ByteD d) (hg : Good d) (hr : Rise x.now) (hby : ∀ p ∈ x.now, ∀ z ∈ p.2.2, z < 256) :
    (cmX x d).1 = 0 ∧ (cmX x d).2.life = -1 ∧ (cmX x d).2.n = d.n ∧ (cmX x d).2.pend = [] ∧ ByteD (cmX x d).2 := by
  have hnw := next_wf hw hfit
  have hLr : Rise (laid x) := layP_rise hr _
  have hLm : ∀ i, (((pgAt (laid x) i).getD (0, [])).1 < d.n / 4 ∧ ((pgAt (laid x) i).getD (0, [])).2.length ≤ 116) := fun i => by
    have h0 := hw.size
    unfold pgAt
    cases e : getL (laid x) i with
    | none => simp; omega
    | some y =>
      have := hnw.com (i, y) ((getL_mem hLr i y).1 e)
      have e9 : x.next.size = x.size := rfl
      simp only [Option.getD_some]
      exact ⟨by rw [hn]; have := this.2.1.2; simp only at this; omega, this.2.2⟩
  have hLz : ∀ i y, getL (laid x) i = some y → ∀ z ∈ y.2, z < 256 := fun i y e z hz => by
    have hm := (getL_mem hLr i y).1 e
    have : (i, y.2) ∈ (laid x).map (fun p => (p.1, p.2.2)) := List.mem_map.2 ⟨_, hm, rfl⟩
    unfold laid layP at this
    rw [layK_data] at this
    obtain ⟨q, hq, e2⟩ := List.mem_map.1 this
    injection e2 with _ e2
    rw [← e2] at hz
    exact hby q hq z hz
  obtain ⟨a1, a2, a3⟩ := wf_live (laid x) (freshN x.now) (0, d) rfl h (fun i _ => hLm i)
  obtain ⟨b1, b2, _, _⟩ := wf_facts (laid x) hLz (freshN x.now) (0, d) hb hg
  have e1 : (freshN x.now).foldl (wfStep (laid x)) (0, d) = wfR (laid x) d (freshN x.now) := rfl
  rw [e1] at a1 a2 a3 b1 b2
  have hat : ∀ k, (tbs x).getD k 0 < (wfR (laid x) d (freshN x.now)).2.n / 4 := fun k => by
    rw [a3, hn]
    simp only [List.getD]
    cases e : (tbs x)[k]? with
    | none => have := hw.size; simp; omega
    | some t => exact (hnw.tabs.2 t (List.mem_of_getElem? e)).2
  obtain ⟨c1, c2, c3⟩ := wt_live (tabB (laid x)) (tbs x) (List.range (tabN (tabB (laid x)).length)) (0, 0, (wfR (laid x) d (freshN x.now)).2) rfl a2 hat
  obtain ⟨d1, d2, _⟩ := wtF_facts (tabB (laid x)) (tbs x) (tabB_byte _) (List.range (tabN (tabB (laid x)).length)) (0, 0, (wfR (laid x) d (freshN x.now)).2) b1 b2
  have e2 : (List.range (tabN (tabB (laid x)).length)).foldl (wtStep (tabB (laid x)) (tbs x)) (0, 0, (wfR (laid x) d (freshN x.now)).2) = wtR (tabB (laid x)) (tbs x) (wfR (laid x) d (freshN x.now)).2 (List.range (tabN (tabB (laid x)).length)) := rfl
  rw [e2] at c1 c2 c3 d1 d2
  obtain ⟨D, hD⟩ : ∃ D, D = (wtR (tabB (laid x)) (tbs x) (wfR (laid x) d (freshN x.now)).2 (List.range (tabN (tabB (laid x)).length))).2.2 := ⟨_, rfl⟩
  have hbar : D.barrier = (0, { D with pend := [], life := -1 }) := by
    unfold DS.barrier
    rw [← hD] at c2
    rw [if_neg (by rw [c2]; simp), c2]
    rfl
  have hDn : D.n = d.n := by rw [hD, c3]; exact a3
  have hcm : cmX x d = (0, ⟨D.n, upd D.sec (4 - x.sector) (byF (rootB ((x.epoch + 1) % 18446744073709551616) ((tbs x).getD 0 0) (tbs x).length)), [], -1⟩) := by
    unfold cmX cmR
    rw [if_neg (by simp [a1]), if_neg (by simp [c1]), ← hD, hbar, if_neg (by simp)]
    have := hw.size
    exact keep_lives (d := { D with pend := [], life := -1 }) rfl (4 - x.sector) (by show 4 - x.sector < D.n; rw [hDn]; omega) _
  rw [hcm]
  refine ⟨rfl, rfl, hDn, rfl, ⟨byt_upd (by rw [hD]; exact d1.sec) _ _ (byF_byt (rootB_lt _ _ _)), by simp, by simp⟩⟩

/-- A store with its disk, which never dies; all of it lies from block B0 on. -/
structure PairAt (w : World) (B0 s p S : Nat) (x : SS) (d : DS) : Prop where
  all : ∃ pv mc mn tv B, DiskAt w B p S pv d ∧ B ≤ w.heap.size ∧ StAt w (diskB p S pv) s p mc mn tv x ∧ ∀ k, mutB (diskB p S pv) s mc mn k → B0 ≤ k
  byte : ByteD d
  good : Good d
  pend : d.pend = []
  life : d.life = -1
  size : d.n / 4 = x.size
theorem PairAt.still {w w' : World} {B0 s p S : Nat} {x : SS} {d : DS} (h : PairAt w B0 s p S x d) (ho : Only (fun _ => False) w w') : PairAt w' B0 s p S x d := by
  obtain ⟨pv, mc, mn, tv, B, h1, h2, h3, h4⟩ := h.all
  exact { h with all := ⟨pv, mc, mn, tv, B, h1.frame ho (fun _ _ e => e), Nat.le_trans h2 ho.size, h3.still ho, h4⟩ }
theorem PairAt.bytes {w : World} {B0 s p S : Nat} {x : SS} {d : DS} (h : PairAt w B0 s p S x d) : ∀ q ∈ x.now, ∀ z ∈ q.2.2, z < 256 := by
  obtain ⟨pv, mc, mn, tv, B, h1, h2, h3, h4⟩ := h.all
  obtain ⟨sl, _, hb⟩ := h3.now
  exact fun q hq => (hb q hq).1.2.2
/-- What a call on the store leaves. -/
def Left (w : World) (B0 s p S : Nat) (x' : SS) (d' : DS) (w' : World) : Prop := PairAt w' B0 s p S x' d' ∧ Only (fun k => B0 ≤ k) w w'
section
variable {w : World} {B0 s p S : Nat} {x : SS} {d : DS}
theorem Left.still (h : PairAt w B0 s p S x d) {w' : World} (ho : Only (fun _ => False) w w') : Left w B0 s p S x d w' := ⟨h.still ho, ho.mono (fun _ _ e => e.elim)⟩
/-- Put, whatever it is handed. -/
theorem pair_put (h : PairAt w B0 s p S x d) (i : Int) (v : Value) (zs : List Nat) (hv : BytesAt w v zs) :
    Calls Try.prog 7 #[.pointer (some ⟨s, 0, none⟩), .int .i64 i, v] w fun e w' =>
      (¬ (0 ≤ i ∧ i < 728) ∧ e = .returned (.int .i64 4) ∧ Left w B0 s p S x d w') ∨ ((0 ≤ i ∧ i < 728) ∧ 116 < zs.length ∧ e = .returned (.int .i64 11) ∧ Left w B0 s p S x d w') ∨
      ((0 ≤ i ∧ i < 728) ∧ zs.length ≤ 116 ∧ e = .returned (.int .i64 0) ∧ Left w B0 s p S { x with now := putL x.now i (0, zs) } d w') := by
  obtain ⟨pv, mc, mn, tv, B, h1, h2, h3, h4⟩ := h.all
  by_cases hi : 0 ≤ i ∧ i < 728
  · by_cases hl : zs.length ≤ 116
    · refine (put_ok h3 (fun k hk => (h1.lt k hk).2) i hi v zs hv hl).mono ?_
      rintro e w' ⟨rfl, q1, q2⟩
      refine .inr (.inr ⟨hi, hl, rfl, { h with all := ⟨pv, mc, mn, tv, B, h1.frame q2 (fun k e e' => h3.k3 (e' ▸ e)), Nat.le_trans h2 q2.size, q1, h4⟩ }, q2.mono (fun k _ e => h4 k (.inr (.inr (.inl e))))⟩)
    · obtain ⟨a, c, rfl, _⟩ := hv.form
      refine (put_large h3 i hi a _ c (by omega)).mono ?_
      rintro e w' ⟨rfl, rfl⟩
      exact .inr (.inl ⟨hi, by omega, rfl, Left.still h (Only.refl _ _)⟩)
  · refine (put_out h3 i (by omega) v).mono ?_
    rintro e w' ⟨rfl, rfl⟩
    exact .inl ⟨hi, rfl, Left.still h (Only.refl _ _)⟩
/-- Drop. -/
theorem pair_drop (h : PairAt w B0 s p S x d) (i : Int) :
    Calls Try.prog 13 #[.pointer (some ⟨s, 0, none⟩), .int .i64 i] w fun e w' =>
      (¬ (0 ≤ i ∧ i < 728) ∧ e = .returned (.int .i64 4) ∧ Left w B0 s p S x d w') ∨ ((0 ≤ i ∧ i < 728) ∧ pgAt x.now i = none ∧ e = .returned (.int .i64 6) ∧ Left w B0 s p S x d w') ∨
      ((0 ≤ i ∧ i < 728) ∧ (∃ y, pgAt x.now i = some y) ∧ e = .returned (.int .i64 0) ∧ Left w B0 s p S { x with now := delL x.now i } d w') := by
  obtain ⟨pv, mc, mn, tv, B, h1, h2, h3, h4⟩ := h.all
  by_cases hi : 0 ≤ i ∧ i < 728
  · cases hg : pgAt x.now i with
    | some y =>
      refine (drop_ok h3 i hi hg).mono ?_
      rintro e w' ⟨rfl, q1, q2⟩
      exact .inr (.inr ⟨hi, ⟨y, rfl⟩, rfl, { h with all := ⟨pv, mc, mn, tv, B, h1.frame q2 (fun k e e' => h3.k3 (e' ▸ e)), Nat.le_trans h2 q2.size, q1, h4⟩ }, q2.mono (fun k _ e => h4 k (.inr (.inr (.inl e))))⟩)
    | none =>
      refine (drop_none h3 i hi hg).mono ?_
      rintro e w' ⟨rfl, q2⟩
      exact .inr (.inl ⟨hi, rfl, rfl, Left.still h q2⟩)
  · refine (drop_out h3 i (by omega)).mono ?_
    rintro e w' ⟨rfl, rfl⟩
    exact .inl ⟨hi, rfl, Left.still h (Only.refl _ _)⟩
/-- Rollback. -/
theorem pair_roll (h : PairAt w B0 s p S x d) (hB0 : B0 ≤ w.heap.size) :
    Calls Try.prog 18 #[.pointer (some ⟨s, 0, none⟩)] w fun e w' => e = .returned (.int .i64 0) ∧ Left w B0 s p S { x with now := x.com } d w' := by
  obtain ⟨pv, mc, mn, tv, B, h1, h2, h3, h4⟩ := h.all
  refine (rollback_ok h3 (fun k hk => (h1.lt k hk).2)).mono ?_
  rintro e w' ⟨mn', rfl, hh⟩
  obtain ⟨q1, q2, q3⟩ := hh.out
  refine ⟨rfl, { h with all := ⟨pv, mc, mn', tv, B, h1.frame q2 (fun k e e' => h3.k1 (e' ▸ e)), Nat.le_trans h2 q2.size, q1, ?_⟩ }, q2.mono (fun k _ e => h4 k (.inl e))⟩
  rintro k (e | e | e | e)
  · exact h4 k (.inl e)
  · exact h4 k (.inr (.inl e))
  · omega
  · exact h4 k (.inr (.inr (.inr e)))
/-- Commit. -/
theorem pair_commit (h : PairAt w B0 s p S x d) (hB0 : B0 ≤ w.heap.size) :
    Calls Try.prog 17 #[.pointer (some ⟨s, 0, none⟩)] w fun e w' =>
      (freeN x x.size < needN x ∧ e = .returned (.int .i64 7) ∧ Left w B0 s p S x d w') ∨
      (needN x ≤ freeN x x.size ∧ e = .returned (.int .i64 0) ∧ Left w B0 s p S x.next (cmX x d).2 w') := by
  obtain ⟨pv, mc, mn, tv, B, h1, h2, h3, h4⟩ := h.all
  refine (commit_any h3 h1 h2 h.byte h.good (by rw [h.pend]; simp)).mono ?_
  rintro e w' hh
  rcases hh.out with ⟨q1, rfl, q2⟩ | ⟨q1, q2, _⟩ | ⟨q1, q2, rfl, pv', mc', mn', tv', q3, q4, q5, q6, q7, q8⟩
  · exact .inl ⟨q1, rfl, Left.still h q2⟩
  · exact absurd (cm_live h3.wf q1 h.life h.size h.byte h.good h3.now.rise h.bytes).1 q2
  · obtain ⟨_, r2, r3, r4, r5⟩ := cm_live h3.wf q1 h.life h.size h.byte h.good h3.now.rise h.bytes
    refine .inr ⟨q1, rfl, { all := ⟨pv', mc', mn', tv', B, q3, Nat.le_trans h2 q5.size, q4, ?_⟩, byte := r5, good := ?_, pend := r4, life := r2, size := by rw [r3]; exact h.size }, q5.mono (fun k _ e => ?_)⟩
    · rintro k (e | e | e | e)
      · exact h4 k (.inl e)
      · omega
      · omega
      · rcases e with e | e | e
        · exact h4 k (.inr (.inr (.inr (.inl e))))
        · exact h4 k (.inr (.inr (.inr (.inr (.inl e)))))
        · rcases q6 k e with e | e
          · exact h4 k (.inr (.inr (.inr (.inr (.inr e)))))
          · omega
    · unfold Good
      rw [r4]
      rfl
    · rcases e with e | e
      · exact h4 k (.inr (.inr (.inr e)))
      · exact h4 k (.inl e)
end
end Go.Proofs.Ytpoakkdkibameab
namespace Go.Proofs.Ytpoakkdkibameab
open Go.RowKit Go.ChangeShapes Go.WideShapes
set_option linter.unusedVariables false

/-- A call of a script: its kind, page, two numbers, data; the two slices as they lie. -/
structure OpS where
  kind : Int
  i : Int
  n : Int
  cut : Int
  b : List Nat
  vb : Value
  vk : Value
def OpS.cells (o : OpS) : List Value := [.int .i64 o.kind, .int .i64 o.i, .int .i64 o.n, .int .i64 o.cut, o.vb, o.vk]
def OpS.ok (W : World) (o : OpS) : Prop := BytesAt W o.vb o.b ∧ ∃ a n c, o.vk = .slice a n c
theorem OpS.ok.frame {W W' : World} {o : OpS} (h : o.ok W) (ho : Only (fun _ => False) W W') : o.ok W' := ⟨h.1.frame ho, h.2⟩
def ScriptAt (W : World) (v : Value) (os : List OpS) : Prop :=
  ((v = .slice none 0 0 ∧ os = []) ∨ ∃ ad c, v = .slice (some ad) os.length c ∧ os.length ≤ c ∧ ∀ i (h : i < os.length) j v, (os[i]).cells[j]? = some v → W.cell? (ad.add (i * 6 + j)) = some v) ∧ os.length ≤ 140737488351232 ∧ ∀ o ∈ os, o.ok W
theorem ScriptAt.get {W : World} {v : Value} {os : List OpS} (h : ScriptAt W v os) (i : Nat) (hi : i < os.length) : ∃ g o c, v = .slice (some ⟨g, o, none⟩) os.length c ∧ W.rangeAt g (o + i * 6) (os[i]).cells ∧ os.length ≤ c := by
  rcases h.1 with ⟨_, h0⟩ | ⟨ad, c, hv, hc⟩
  · subst h0; simp at hi
  · obtain ⟨hcap, hc⟩ := hc
    have h0 := hc i hi 0 _ rfl
    have hsp := World.cell?_spot h0
    obtain ⟨g, o, spot⟩ := ad
    have hs : spot = none := by
      by_cases e : i * 6 + 0 = 0
      · simpa [Addr.add, e] using hsp
      · have := hc 0 (by omega) 0 _ rfl
        have h2 := World.cell?_spot this
        simpa [Addr.add] using h2
    subst hs
    exact ⟨g, o, c, hv, fun j u hu => by have := hc i hi j u hu; rw [Addr.add_mid] at this; rw [Nat.add_assoc]; exact this, hcap⟩
theorem ScriptAt.form {W : World} {v : Value} {os : List OpS} (h : ScriptAt W v os) : ∃ a c, v = .slice a os.length c := by
  rcases h.1 with ⟨h1, h2⟩ | ⟨ad, c, hv, _⟩
  · exact ⟨none, 0, by rw [h1, h2]; rfl⟩
  · exact ⟨_, _, hv⟩
section
variable {H : Type} {enc : TypeId × Value → H} {w : World} {base fuel : Nat} {held : Bool}
theorem cellsI : Try.prog.cellsOf 3 = 1 := by kernel_rfl
theorem cellsB : Try.prog.cellsOf 23 = 1 := by kernel_rfl
theorem cellsF : Try.prog.cellsOf 81 = 1 := by kernel_rfl
theorem cellsO : Try.prog.cellsOf 83 = 6 := by kernel_rfl
theorem bytesO : Try.prog.bytesOf 83 = 80 := by kernel_rfl
theorem six {α : Type} : ∀ (l : List α), l.length = 6 → ∃ a b c d e f, l = [a, b, c, d, e, f]
  | [a, b, c, d, e, f], _ => ⟨a, b, c, d, e, f, rfl⟩
theorem exists_list {α : Type} : ∀ (len : Nat) (p : Nat → α → Prop), (∀ i, i < len → ∃ x, p i x) → ∃ l : List α, l.length = len ∧ ∀ i (h : i < l.length), p i l[i]
  | 0, _, _ => ⟨[], rfl, fun i h => by simp at h⟩
  | n + 1, p, hp => by
    obtain ⟨l, hl, hq⟩ := exists_list n p (fun i hi => hp i (by omega))
    obtain ⟨x, hx⟩ := hp n (by omega)
    refine ⟨l ++ [x], by simp [hl], fun i hi => ?_⟩
    by_cases e : i < l.length
    · rw [List.getElem_append_left e]; exact hq i e
    · have : i = l.length := by simp at hi; omega
      subst this
      rw [List.getElem_append_right (by omega)]
      simpa [hl] using hx
theorem cells?_get {a : Addr} {n : Nat} {cs : List Value} (h : w.cells? base a n = some cs) : cs.length = n ∧ ∀ j v, cs[j]? = some v → w.cell? (a.add j) = some v := by
  unfold World.cells? at h
  split at h
  · refine ⟨by simpa using mapM_some_length h, fun j v hv => ?_⟩
    have hj : j < n := by
      have := (List.getElem?_eq_some_iff.1 hv).1
      have hl : cs.length = n := by simpa using mapM_some_length h
      omega
    have := mapM_some_get h j j (by simp [hj])
    rw [this]; exact hv
  · cases h
theorem weightsAll_mem {P : Program} {e : TypeId} : ∀ (l : List (DataW H)) (d : DataW H), d ∈ l → ∀ n ∈ d.weights P e, n ∈ DataW.weightsAll P e l
  | d0 :: r, d, hd, n, hn => by
    simp only [DataW.weightsAll, List.mem_append]
    rcases List.mem_cons.1 hd with rfl | hd
    · exact .inl hn
    · exact .inr (weightsAll_mem r d hd n hn)
theorem read_flags1 {v : Value} {x : DataW H × List MemPlace} (h : DataW.trod enc Try.prog w base (fun _ => true) held fuel 81 [v] = some x) : ∃ a n c, v = .slice a n c := by
  rcases Deep.open_slice Try.underlying81 h with ⟨hcs, _⟩ | ⟨a, len, cap, m, n, D, Pl, hcs, _⟩
  · simp at hcs; exact ⟨none, 0, 0, hcs⟩
  · simp at hcs; exact ⟨_, _, _, hcs⟩
theorem read_op {cs : List Value} {x : DataW H × List MemPlace} (h : DataW.trod enc Try.prog w base (fun _ => true) held fuel 83 cs = some x) (hw : ∀ n ∈ x.1.weights Try.prog 83, n ≤ reachBytes) : ∃ o : OpS, o.cells = cs ∧ o.ok w := by
  obtain ⟨xs, n, _, rfl, hl, hxl, hf⟩ := DataW.trod_struct Try.underlying83 h
  rw [cellsO] at hl
  obtain ⟨c0, c1, c2, c3, c4, c5, rfl⟩ := six cs hl
  obtain ⟨y0, y1, y2, y3, y4, y5, rfl⟩ := six xs hxl
  have g0 : DataW.trod enc Try.prog w base (fun _ => true) held n 3 (([c0, c1, c2, c3, c4, c5].drop 0).take (Try.prog.cellsOf 3)) = some y0 := hf 0 _ rfl
  rw [cellsI] at g0
  have g1 : DataW.trod enc Try.prog w base (fun _ => true) held n 3 (([c0, c1, c2, c3, c4, c5].drop 1).take (Try.prog.cellsOf 3)) = some y1 := hf 1 _ rfl
  rw [cellsI] at g1
  have g2 : DataW.trod enc Try.prog w base (fun _ => true) held n 3 (([c0, c1, c2, c3, c4, c5].drop 2).take (Try.prog.cellsOf 3)) = some y2 := hf 2 _ rfl
  rw [cellsI] at g2
  have g3 : DataW.trod enc Try.prog w base (fun _ => true) held n 3 (([c0, c1, c2, c3, c4, c5].drop 3).take (Try.prog.cellsOf 3)) = some y3 := hf 3 _ rfl
  rw [cellsI] at g3
  have g4 : DataW.trod enc Try.prog w base (fun _ => true) held n 23 (([c0, c1, c2, c3, c4, c5].drop 4).take (Try.prog.cellsOf 23)) = some y4 := hf 4 _ rfl
  rw [cellsB] at g4
  have g5 : DataW.trod enc Try.prog w base (fun _ => true) held n 81 (([c0, c1, c2, c3, c4, c5].drop 5).take (Try.prog.cellsOf 81)) = some y5 := hf 5 _ rfl
  rw [cellsF] at g5
  simp only [List.drop_succ_cons, List.drop_zero, List.take_succ_cons, List.take_zero] at g0 g1 g2 g3 g4 g5
  obtain ⟨n0, e0, _, w0⟩ := DataW.trod_int Try.underlying3 g0
  obtain ⟨n1, e1, _, w1⟩ := DataW.trod_int Try.underlying3 g1
  obtain ⟨n2, e2, _, w2⟩ := DataW.trod_int Try.underlying3 g2
  obtain ⟨n3, e3, _, w3⟩ := DataW.trod_int Try.underlying3 g3
  have hmem : ∀ (j : Nat) (t : TypeId) (d : DataW H), [3, 3, 3, 3, 23, 81][j]? = some t → [y0.1, y1.1, y2.1, y3.1, y4.1, y5.1][j]? = some d → ∀ n ∈ d.weights Try.prog t, n ≤ reachBytes := fun j t d ht hd n hn => by
    refine hw n ?_
    simp only [DataW.weights, Try.underlying83]
    exact DataW.weights_mem_each ht hd n hn
  obtain ⟨zs, hzs⟩ := read_bytes g4 (hmem 4 23 y4.1 rfl rfl)
  have hk := read_flags1 g5
  simp at e0 e1 e2 e3
  subst e0 e1 e2 e3
  exact ⟨⟨n0, n1, n2, n3, zs, c4, c5⟩, rfl, hzs.1, hk⟩
theorem read_script {v : Value} {x : DataW H × List MemPlace} (h : DataW.trod enc Try.prog w base (fun _ => true) held fuel 22 [v] = some x) (hw : ∀ n ∈ x.1.weights Try.prog 22, n ≤ reachBytes) : ∃ os, ScriptAt w v os := by
  rcases Deep.open_slice Try.underlying22 h with ⟨hcs, _⟩ | ⟨a, len, cap, m, n, D, Pl, hcs, _, hl, hm, hmm, hx, hel⟩
  · simp at hcs
    exact ⟨[], .inl ⟨hcs, rfl⟩, by simp, fun o ho => by cases ho⟩
  · simp at hcs
    rw [if_pos rfl] at hmm
    subst hmm
    have hb := hw _ (by rw [hx]; simp only [DataW.weights, Try.underlying22]; exact List.mem_cons_self ..)
    rw [bytesO] at hb
    simp only [List.length_map, List.length_range, reachBytes] at hb
    obtain ⟨os, hol, hos⟩ := exists_list len (fun i (o : OpS) => (∀ j v, o.cells[j]? = some v → w.cell? (a.add (i * 6 + j)) = some v) ∧ o.ok w) (fun i hi => by
      obtain ⟨cs', h1, h2⟩ := hel i (by omega)
      rw [cellsO] at h1
      obtain ⟨o, ho1, ho2⟩ := read_op h2 (fun q hq => hw q (by
        rw [hx]
        simp only [DataW.weights, Try.underlying22]
        refine List.mem_cons_of_mem _ (List.mem_append_left _ (weightsAll_mem _ (D i) ?_ q hq))
        exact List.mem_map.2 ⟨i, List.mem_range.2 hi, rfl⟩))
      refine ⟨o, fun j v hv => ?_, ho2⟩
      rw [ho1] at hv
      rw [← Deep.add_add]
      exact (cells?_get h1).2 j v hv)
    refine ⟨os, .inr ⟨a, m, by rw [hol]; exact hcs, by omega, fun i hi => (hos i hi).1⟩, by omega, fun o ho => ?_⟩
    obtain ⟨i, hi, rfl⟩ := List.getElem_of_mem ho
    exact (hos i hi).2
end
end Go.Proofs.Ytpoakkdkibameab
