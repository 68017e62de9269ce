import Derived.Test.YtlcglapcmdpkfaaGreatTk
import Derived.Test.YtlcglapcmdpkfaaGreatA6
namespace Go.Proofs.YtlcglapcmdpkfaaGreat
open Go.RowKit Go.Maps Go.Shelf
set_option linter.unusedSimpArgs false
set_option linter.unusedVariables false
theorem slice_from (g k c f : Nat) (hf : f ≤ k) (hc : k ≤ c) : ∃ a2 c2, (∀ w, (Instr.slice 76 (.slice (some ⟨g, 0, none⟩) k c) (some (.int .i64 (f : Nat))) none none).run Tryz.prog w = .ok (.slice a2 (k - f) c2) w) ∧ (a2 = some ⟨g, f, none⟩ ∨ k = f ∧ a2 = some ⟨g, 0, none⟩) ∧ k - f ≤ c2 := by
 have k0 : (0 : Int) ≤ (f : Int) := by omega
 have k1 : (f : Int) ≤ (k : Int) := by omega
 have kc : (k : Int) ≤ (c : Int) := by omega
 have k2 : (f : Int) ≤ (c : Int) := by omega
 have e1 : ((k : Int) - (f : Int)).toNat = k - f := by omega
 have e2 : ((c : Int) - (f : Int)).toNat = c - f := by omega
 by_cases e : c = f
 ·have ek : k = f := by omega
  subst e ek
  exact ⟨some ⟨g, 0, none⟩, 0, fun w => by go_simp, .inr ⟨rfl, rfl⟩, by omega⟩
 ·have ec : ¬ c - f = 0 := by omega
  have ec2 : ¬ c = f := e
  refine ⟨some ⟨g, f, none⟩, c - f, fun w => ?_, .inl rfl, by omega⟩
  go_simp
theorem slice_none (w : World) : (Instr.slice 76 (.slice none 0 0) (some (.int .i64 0)) none none).run Tryz.prog w = .ok (.slice none 0 0) w := by kernel_rfl
theorem slice_fresh {w : World} {B : Nat} {v : Value} {zs : List Nat} (h : FreshI w B v zs) (f : Nat) (hf : f ≤ zs.length) : ∃ a2 c2, (∀ w', (Instr.slice 76 v (some (.int .i64 (f : Nat))) none none).run Tryz.prog w' = .ok (.slice a2 (zs.length - f) c2) w') ∧ IntsAt w (.slice a2 (zs.length - f) c2) (zs.drop f) ∧ ∀ b, (Value.slice a2 (zs.length - f) c2).ownBlock = some b → v.ownBlock = some b := by
 rcases h.1.2 with ⟨rfl, h0⟩ | ⟨g, cap, cur, rfl, hB, hg, hcap, _, _, _⟩
 ·have f0 : f = 0 := by omega
  subst f0
  refine ⟨none, 0, fun w' => by rw [h0]; exact slice_none w', ?_, fun b e => by cases e⟩
  rw [h0]
  exact .inl ⟨rfl, by simp [h0]⟩
 ·have hcap' : zs.length ≤ cap := by simpa using hcap
  obtain ⟨a2, c2, hr, ha, hc⟩ := slice_from g zs.length cap f hf hcap'
  refine ⟨a2, c2, hr, ?_, fun b e => ?_⟩
  ·have hl : (zs.drop f).length = zs.length - f := List.length_drop ..
   unfold IntsAt
   rw [hl]
   rcases ha with rfl | ⟨e, rfl⟩
   ·refine .inr ⟨⟨g, f, none⟩, c2, rfl, hc, fun j hj => ?_⟩
    rw [Addr.add_mid, h.1.cellAt (f + j) (by omega)]
    rw [IL_get zs (f + j) (by omega)]
    simp [List.getD]
   ·exact .inr ⟨⟨g, 0, none⟩, c2, rfl, hc, fun j hj => by omega⟩
  ·rcases ha with rfl | ⟨_, rfl⟩
   ·exact e
   ·exact e
theorem range_sets {w : World} {s : Nat} {v0 v1 v2 v3 v4 v5 v6 : Value} (h : w.rangeAt s 0 [v0, v1, v2, v3, v4, v5, v6]) (ht : w.there s 0 7) (u2 u3 u4 : Value) :
  (((w.setCell ⟨s, 2, none⟩ u2).setCell ⟨s, 3, none⟩ u3).setCell ⟨s, 4, none⟩ u4).rangeAt s 0 [v0, v1, u2, u3, u4, v5, v6] ∧ (((w.setCell ⟨s, 2, none⟩ u2).setCell ⟨s, 3, none⟩ u3).setCell ⟨s, 4, none⟩ u4).there s 0 7 := by
 have r1 := range_set h (j := 2) (by simp) u2
 have t1 := there_set ht (h 2 _ rfl) u2
 have r2 := range_set r1 (j := 3) (by simp) u3
 have t2 := there_set t1 (r1 3 _ rfl) u3
 have r3 := range_set r2 (j := 4) (by simp) u4
 have t3 := there_set t2 (r2 4 _ rfl) u4
 exact ⟨r3, t3⟩
theorem only_sets (W : World) (g : Nat) : ∀ (l : List (Nat × Value)), Only (fun b => b = g) W (l.foldl (fun w q => w.setCell ⟨g, q.1, none⟩ q.2) W) := by
 intro l
 have key : ∀ (l : List (Nat × Value)) (V : World), Only (fun b => b = g) W V → Only (fun b => b = g) W (l.foldl (fun w q => w.setCell ⟨g, q.1, none⟩ q.2) V) := by
  intro l
  induction l with
  | nil => exact fun V h => h
  | cons q l ih => exact fun V h => ih _ (h.setCell ⟨g, q.1, none⟩ q.2 (fun _ => rfl))
 exact key l W (Only.refl _ W)
theorem dead_set {w : World} {s : Nat} {v0 : Value} (h : w.cell? ⟨s, 0, none⟩ = some v0) (u1 u2 u3 u4 u5 u6 : Value) :
  (((((((w.setCell ⟨s, 0, none⟩ (.pointer none)).setCell ⟨s, 1, none⟩ u1).setCell ⟨s, 2, none⟩ u2).setCell ⟨s, 3, none⟩ u3).setCell ⟨s, 4, none⟩ u4).setCell ⟨s, 5, none⟩ u5).setCell ⟨s, 6, none⟩ u6).cell? ⟨s, 0, none⟩ = some (.pointer none) ∧
  Only (fun b => b = s) w (((((((w.setCell ⟨s, 0, none⟩ (.pointer none)).setCell ⟨s, 1, none⟩ u1).setCell ⟨s, 2, none⟩ u2).setCell ⟨s, 3, none⟩ u3).setCell ⟨s, 4, none⟩ u4).setCell ⟨s, 5, none⟩ u5).setCell ⟨s, 6, none⟩ u6) := by
 refine ⟨?_, only_sets w s [(0, .pointer none), (1, u1), (2, u2), (3, u3), (4, u4), (5, u5), (6, u6)]⟩
 rw [World.cell?_setCell_other _ _ _ _ (by simp), World.cell?_setCell_other _ _ _ _ (by simp), World.cell?_setCell_other _ _ _ _ (by simp), World.cell?_setCell_other _ _ _ _ (by simp), World.cell?_setCell_other _ _ _ _ (by simp), World.cell?_setCell_other _ _ _ _ (by simp), World.cell?_setCell_same _ _ _ h]
def dkE (E : Nat → Prop) (p S : Nat) (pv : Value) : Nat → Prop := fun k => diskB p S pv k ∨ E k
def CmIsE (E : Nat → Prop) (x : SS) (d : DS) (w : World) (B p S s : Nat) (pv : Value) (e : Ending) (w' : World) : Prop :=
 (freeN x x.size < needN x ∧ e = .returned (.int .i64 7) ∧ Only (fun _ => False) w w') ∨
 (needN x ≤ freeN x x.size ∧ (cmX x d).1 ≠ 0 ∧ e = .returned (.int .i64 3) ∧ ∃ pv', DiskAt w' B p S pv' (cmX x d).2 ∧ w'.cell? ⟨s, 0, none⟩ = some (.pointer none) ∧ Only (fun k => diskB p S pv k ∨ k = s) w w' ∧ (∀ b, pv'.ownBlock = some b → pv.ownBlock = some b ∨ w.heap.size ≤ b)) ∨
 (needN x ≤ freeN x x.size ∧ (cmX x d).1 = 0 ∧ e = .returned (.int .i64 0) ∧ ∃ pv' mc' mn' tv', DiskAt w' B p S pv' (cmX x d).2 ∧ StAt w' (dkE E p S pv') s p mc' mn' tv' x.next ∧ Only (fun k => diskB p S pv k ∨ k = s) w w' ∧ (∀ b, pv'.ownBlock = some b → pv.ownBlock = some b ∨ w.heap.size ≤ b) ∧ w.heap.size ≤ mc' ∧ w.heap.size ≤ mn')
theorem mut_sub {E : Nat → Prop} {p S s mc mn k : Nat} {pv : Value} (h : mutB (diskB p S pv) s mc mn k) : mutB (dkE E p S pv) s mc mn k := by
 rcases h with e | e | e | e
 ·exact .inl e
 ·exact .inr (.inl e)
 ·exact .inr (.inr (.inl e))
 ·exact .inr (.inr (.inr (.inl e)))
set_option maxRecDepth 100000 in
set_option maxHeartbeats 2000000 in
theorem commit_anyE {w : World} {E : Nat → Prop} {s p mc mn S B : Nat} {tv pv : Value} {x : SS} {d : DS} (h : StAt w (dkE E p S pv) s p mc mn tv x) (hEl : ∀ k, E k → k < w.heap.size) (hd : DiskAt w B p S pv d) (hB : B ≤ w.heap.size) (hb : ByteD d) (hg : Good d) (hp : d.pend.length ≤ 9000000000) :
  Calls Tryz.prog 20 #[.pointer (some ⟨s, 0, none⟩)] w fun e w' => Hid (CmIsE E x d w B p S s pv e w') := by
 have hlt := hd.lt
 have hd0 : ∀ k, diskB p S pv k → k < w.heap.size := fun k hk => (hlt k hk).2
 have hdE : ∀ k, dkE E p S pv k → k < w.heap.size := fun k hk => hk.elim (hd0 k) (hEl k)
 have HU := usable_ok s p w h.c0
 have HPl : Hid (Calls Tryz.prog 54 _ _ _) := plan_any h hdE
 have HS : Hid (StAt w (dkE E p S pv) s p mc mn tv x) := h
 have HD : Hid (DiskAt w B p S pv d) := hd
 have hwf := h.wf
 have hnl := st_len h
 have hT := tab_small hwf hnl (plA_small hwf)
 have hP := putN_le x
 obtain ⟨T, hTe⟩ : ∃ T, T = (tabB (layP x.now (plA x))).length := ⟨_, rfl⟩
 obtain ⟨F, hF⟩ : ∃ q, q = putN x := ⟨_, rfl⟩
 obtain ⟨nd, hnd⟩ : ∃ q, q = needN x := ⟨_, rfl⟩
 have HE : Hid (F = putN x ∧ nd = needN x ∧ T = (tabB (layP x.now (plA x))).length) := ⟨hF, hnd, hTe⟩
 have HNN : Hid (nd = F + tabN T) := by rw [hnd, hF, hTe]; rfl
 rw [← hTe] at hT
 rw [← hF] at hP
 have hnd4 : nd ≤ 1000 := by rw [hnd, show needN x = putN x + tabN (tabB (layP x.now (plA x))).length from rfl, ← hTe, ← hF]; unfold tabN; omega
 have hdisk : ¬ diskB p S pv s := fun e => h.k1 (.inl e)
 have hEs : ¬ E s := fun e => h.k1 (.inr e)
 have hsl := h.lt
 clear h hd hlt hTe hF hnd
 go_enter Tryz.func20, Tryz.ntmps20
 go_wp2_with (go_at_call 35; refine HU.mono ?_; rintro e w' ⟨rfl, rfl⟩)
 refine (show Calls Tryz.prog 54 _ _ _ from HPl.out).mono ?_
 rintro e w1 ⟨a1, c1, ml, a3, c3, rfl, HP⟩
 clear HPl HU
 rw [← HE.out.1, ← HE.out.2.2] at HP
 rw [← HE.out.1, ← HE.out.2.2]
 obtain ⟨R, hR⟩ : ∃ R, R = w1.heap.size := ⟨_, rfl⟩
 obtain ⟨wq, hwq⟩ : ∃ q, q = w1.alloc (.cells #[.slice a1 F c1, .map (some ml), .slice a3 T c3] 105) := ⟨_, rfl⟩
 have oq : Only (fun _ => False) w1 wq := by rw [hwq]; exact (Only.refl _ w1).alloc _
 have bq : wq.heap[R]? = some (.cells #[.slice a1 F c1, .map (some ml), .slice a3 T c3] 105 (0, 0)) := by rw [hwq, hR]; exact heap_alloc_new w1 _
 have HWQ : Hid (wq = w1.alloc (.cells #[.slice a1 F c1, .map (some ml), .slice a3 T c3] 105) ∧ R = w1.heap.size) := ⟨hwq, hR⟩
 have HOQ : Hid (Only (fun _ => False) w1 wq) := oq
 have HBQ : Hid (wq.heap[R]? = some (.cells #[.slice a1 F c1, .map (some ml), .slice a3 T c3] 105 (0, 0))) := bq
 have hRq : R < wq.heap.size := (Array.getElem?_eq_some_iff.1 bq).1
 clear hwq hR oq bq
 have HC4 : Hid (∀ wx, Only (fun _ => False) wq wx → wx.cell? ⟨R, 0, none⟩ = some (.slice a1 F c1) ∧ wx.cell? ⟨R, 1, none⟩ = some (.map (some ml)) ∧ wx.cell? ⟨R, 2, none⟩ = some (.slice a3 T c3)) := fun wx ho => by
  have hx : wx.heap[R]? = some (.cells #[.slice a1 F c1, .map (some ml), .slice a3 T c3] 105 (0, 0)) := by rw [ho.block R hRq (fun e => e)]; exact HBQ.out
  refine ⟨?_, ?_, ?_⟩ <;> (rw [cell_of_row _ _ _ _ _ _ hx]; rfl)
 have hsq : StAt wq (dkE E p S pv) s p mc mn tv x := (HS.out.still HP.out.2.2.2.2).still HOQ.out
 have HUs : Hid (Calls Tryz.prog 56 #[.pointer (some ⟨s, 0, none⟩)] wq.drew fun e w2 => ∃ g, e = .returned (.slice (some ⟨g, 0, none⟩) x.size x.size) ∧ Hid (FBlk w2 g x.size (usedF x) ∧ Only (fun _ => False) wq w2)) := by
  have od : Only (fun _ => False) wq wq.drew := (Only.refl _ wq).drew
  refine (used_any (hsq.still od)).mono ?_
  rintro e w2 ⟨rfl, q1, q2⟩
  exact ⟨_, rfl, q1, od.trans q2 (fun _ _ e => e)⟩
 have HSQ : Hid (StAt wq (dkE E p S pv) s p mc mn tv x) := hsq
 clear hsq
 go_wp2_with fail
 rw [← HWQ.out.1, ← HWQ.out.2]
 refine wp_region_held_drew (S := fun w2 => Only (fun _ => False) wq w2) (by kernel_rfl) ((Only.refl _ wq).drew) (fun hHeld => ?_)
 refine t8 (i := 0) (v := .pointer (some ⟨s, 0, none⟩)) rfl hHeld ?_
 simp only [Act.put, z9]
 refine t8 (i := 2) (v := .agg #[.slice a1 F c1, .map (some ml), .slice a3 T c3]) rfl hHeld ?_ (Or.inl ⟨by rfl, fun wx hSw => by obtain ⟨q0, q1, q2⟩ := HC4.out wx hSw; go_simp⟩)
 simp only [Act.put, z9]
 refine wpAnyH_ready (rs := [1]) (by kernel_rfl) (by simp) ?_
 refine AllReadyH.cons rfl (fun K hK => ?_) AllReadyH.nil
 rw [if_pos (by rfl)]
 refine wp_call_func #[.tmp 16] #[32] rfl #[.pointer (some ⟨s, 0, none⟩)] (by simp [Act.eval]) (enters_of Tryz.func56 (by kernel_rfl) rfl) (show Calls Tryz.prog 56 _ _ _ from HUs.out) (fun e w2 he => ?_)
 obtain ⟨g, rfl, HF2⟩ := he
 refine ⟨_, rfl, hK _ _ HF2.out.2 (fun hHeld => ?_)⟩
 clear hK K HUs
 simp only [Act.put, z9]
 have HNd : Hid (Calls Tryz.prog 57 #[.agg #[.slice a1 F c1, .map (some ml), .slice a3 T c3]] w2 fun e w3 => e = .returned (.int .i64 (nd : Nat)) ∧ Only (fun _ => False) w2 w3) := by
  have := need_any a1 a3 F c1 T c3 (some ml) w2 (by omega) (by omega)
  rw [← HNN.out] at this
  exact this
 refine wpAnyH_ready (rs := [3]) (by kernel_rfl) (by simp) ?_
 refine AllReadyH.cons rfl (fun K hK => ?_) AllReadyH.nil
 rw [if_pos (by rfl)]
 refine wp_call_func #[.tmp 18] #[105] rfl #[.agg #[.slice a1 F c1, .map (some ml), .slice a3 T c3]] (by simp [Act.eval]) (enters_of Tryz.func57 (by kernel_rfl) rfl) (show Calls Tryz.prog 57 _ _ _ from HNd.out) (fun e w3 he => ?_)
 obtain ⟨rfl, ho3⟩ := he
 have o3 : Only (fun _ => False) wq w3 := HF2.out.2.trans ho3 (fun _ _ e => e)
 refine ⟨_, rfl, hK _ _ o3 (fun hHeld => ?_)⟩
 clear hK K HNd
 simp only [Act.put, z9]
 have HFi : Hid (Calls Tryz.prog 55 #[.slice (some ⟨g, 0, none⟩) x.size x.size, .int .i64 (nd : Nat)] w3 fun e w4 => FirstIs ((freeL x x.size).take nd) nd w3 e w4) := by
  have hf3 : FBlk w3 g x.size (usedF x) := HF2.out.1.frame ho3 (fun e => e)
  have := first_ok _ _ nd w3 (hf3.flags (by have := hwf.size; omega)) (by rw [flF_length]; have := hwf.size; omega)
  rw [fr_free_all] at this
  exact this
 have O3 : Hid (Only (fun _ => False) wq w3) := o3
 clear o3 ho3 HF2
 refine wpAnyH_ready (rs := [4]) (by kernel_rfl) (by simp) ?_
 refine AllReadyH.cons rfl (fun K hK => ?_) AllReadyH.nil
 rw [if_pos (by rfl)]
 refine wp_call_func #[.tmp 17, .tmp 19] #[38, 3] rfl #[.slice (some ⟨g, 0, none⟩) x.size x.size, .int .i64 (nd : Nat)] (by simp [Act.eval]) (enters_of Tryz.func55 (by kernel_rfl) rfl) (show Calls Tryz.prog 55 _ _ _ from HFi.out) (fun e w4 he => ?_)
 clear HFi
 rcases he with ⟨hl, rfl, ho4⟩ | ⟨heq, u, rfl, hu, ho4⟩
 ·have o4 : Only (fun _ => False) wq w4 := O3.out.trans ho4 (fun _ _ e => e)
  refine ⟨_, rfl, hK _ _ o4 (fun hHeld => ?_)⟩
  clear hK K
  simp only [Act.put, z9]
  refine t8 (i := 5) (v := .tuple #[.slice none 0 0, .int .i64 7]) rfl hHeld ?_
  simp only [Act.put, z9]
  refine t8 (i := 6) (v := .slice none 0 0) rfl hHeld ?_
  simp only [Act.put, z9]
  refine t8 (i := 8) (v := .slice none 0 0) rfl hHeld ?_
  simp only [Act.put, z9]
  refine t8 (i := 7) (v := .int .i64 7) rfl hHeld ?_
  simp only [Act.put, z9]
  refine t8 (i := 9) (v := .int .i64 7) rfl hHeld ?_
  simp only [Act.put, z9]
  refine wpAnyH_done (by kernel_rfl) ?_ _
  have HQ : Hid (CmIsE E x d w' B p S s pv (.returned (.int .i64 7)) w4) := by
   refine .inl ⟨?_, rfl, (HP.out.2.2.2.2.trans HOQ.out (fun _ _ e => e)).trans o4 (fun _ _ e => e)⟩
   rw [List.length_take, freeL_len] at hl
   have := HE.out.2.1
   omega
  clear o4 ho4 hl hHeld
  go_wp2
  go_ret
  exact HQ.out
 ·have o4 : Only (fun _ => False) wq w4 := O3.out.trans ho4 (fun _ _ e => e)
  refine ⟨_, rfl, hK _ _ o4 (fun hHeld => ?_)⟩
  clear hK K
  simp only [Act.put, z9]
  refine t8 (i := 5) (v := .tuple #[u, .int .i64 0]) rfl hHeld ?_
  simp only [Act.put, z9]
  refine t8 (i := 6) (v := u) rfl hHeld ?_
  simp only [Act.put, z9]
  refine t8 (i := 8) (v := u) rfl hHeld ?_
  simp only [Act.put, z9]
  refine t8 (i := 7) (v := .int .i64 0) rfl hHeld ?_
  simp only [Act.put, z9]
  refine t8 (i := 9) (v := .int .i64 0) rfl hHeld ?_
  simp only [Act.put, z9]
  refine wpAnyH_done (by kernel_rfl) ?_ _
  obtain ⟨a2, c2, hsl2, hi2, hob2⟩ := slice_fresh hu F (by rw [heq]; have := HNN.out; omega)
  rw [heq] at hsl2 hi2 hob2
  have hcs := HC4.out w4 o4
  obtain ⟨q0, q1, q2⟩ := hcs
  obtain ⟨au, cu, rfl, _⟩ := hu.form
  rw [heq] at hsl2 hob2 hu ⊢
  have O4 : Hid (Only (fun _ => False) wq w4) := o4
  have HU2 : Hid (∀ b, (Value.slice a2 (nd - F) c2).ownBlock = some b → w3.heap.size ≤ b ∧ b < w4.heap.size) := fun b e => hu.1.lt b (hob2 b e)
  have HI2 : Hid (IntsAt w4 (.slice a2 (nd - F) c2) (((freeL x x.size).take nd).drop F)) := hi2
  clear hHeld
  have HWr : Hid (Calls Tryz.prog 58 #[.pointer (some ⟨s, 0, none⟩), .agg #[.slice a1 F c1, .map (some ml), .slice a3 T c3], .slice a2 (nd - F) c2] w4 fun e w5 => e = .returned (.int .i64 (cmX x d).1) ∧ Hid (WrIs w4 B p S pv (cmX x d) e w5)) := by
   obtain ⟨p1, p2, p3, p4, p5⟩ := HP.out
   have o14 : Only (fun _ => False) w1 w4 := HOQ.out.trans O4.out (fun _ _ e => e)
   have hs4 : StAt w4 (diskB p S pv) s p mc mn tv x := (HSQ.out.still O4.out).frame (Only.refl (fun _ => False) w4) (fun _ _ e => e.elim) (fun _ _ e => .inl e)
   have ow4 : Only (fun _ => False) w' w4 := p5.trans o14 (fun _ _ e => e)
   have s4 := ow4.size
   have s14 := o14.size
   have hfit : needN x ≤ freeN x x.size := by
    rw [List.length_take, freeL_len] at heq
    have := HE.out.2.1
    omega
   have htl : tbs x = ((freeL x x.size).take nd).drop F := by unfold tbs; rw [HE.out.1, HE.out.2.1]
   have htn := tbs_length hfit
   have e1 : (freshN x.now).length = F := HE.out.1.symm
   have e2 : (tabB (laid x)).length = T := HE.out.2.2.symm
   have e3 : (tbs x).length = nd - F := by rw [htl, List.length_drop, heq]
   have h1 : IntsAt w4 (.slice a1 (freshN x.now).length c1) (freshN x.now) := by rw [e1]; exact (p1.frame o14).ints
   have h2 : BytesAt w4 (.slice a3 (tabB (laid x)).length c3) (tabB (laid x)) := by rw [e2]; exact (p4.frame o14).bytes
   have h3 : IntsAt w4 (.slice a2 (tbs x).length c2) (tbs x) := by rw [e3, htl]; exact HI2.out
   have nd0 : ∀ b, w'.heap.size ≤ b → ¬ diskB p S pv b := fun b hb' e => by have := hd0 b e; omega
   have key := swrite_core hs4 (HD.out.frame ow4 (fun _ _ e => e)) (by omega) hb hg hp a1 a3 a2 c1 c3 c2 (freshN x.now) (tabB (laid x)) (tbs x) (laid x) (ml := ml) h1
    (fun b e => by rw [e1] at e; have := p1.1.lt b e; exact ⟨by omega, nd0 b this.1⟩) (by omega)
    (p3.frame o14 (fun e => e) (fun _ _ e => e.elim) (fun k _ e => .inl (mut_sub e))) (nd0 ml p2)
    (fun i hi => by
     obtain ⟨dt, hm⟩ := (freshN_mem (fun p hp => (hwf.now p hp).1.1)).1 hi
     have := (hwf.now _ hm).1
     simp only at this
     omega)
    h2 (fun b e => by rw [e2] at e; have := p4.1.lt b e; exact ⟨by omega, nd0 b this.1⟩) (by omega)
    h3 (fun b e => by rw [e3] at e; have := hu.1.lt b (hob2 b e); exact ⟨this.2, nd0 b (by have := O3.out.size; have := HOQ.out.size; have := p5.size; omega)⟩) htn
    (fun t ht => by have := ((next_wf hwf hfit).tabs.2 t ht).2; have := hwf.size; have e9 : x.next.size = x.size := rfl; omega)
   rw [e1, e2, e3] at key
   refine key.mono ?_
   rintro e w5 hw
   exact ⟨hw.out.1, hw.out⟩
  obtain ⟨r, hr⟩ : ∃ r, r = cmX x d := ⟨_, rfl⟩
  have HR : Hid (r = cmX x d) := hr
  rw [← hr] at HWr
  clear hr hu hi2 ho4 o4
  go_wp2_with fail
  refine (show Calls Tryz.prog 58 _ _ _ from HWr.out).mono ?_
  rintro e w5 ⟨rfl, HW5⟩
  clear HWr q0 q1 q2 hsl2
  obtain ⟨_, pv5, hd5, ho5, hp5⟩ := HW5.out
  have hs5 : StAt w5 (dkE E p S pv) s p mc mn tv x := (HSQ.out.still O4.out).frame ho5 (fun _ _ e => .inl e) (fun _ _ e => e)
  have c0 := hs5.c0
  have c1' := hs5.c1
  have c2' := hs5.c2
  have c3' := hs5.c3
  have c4' : w5.cell? ⟨s, 4, none⟩ = some tv := hs5.cells 4 _ rfl
  have c5' := hs5.c5
  have c6' := hs5.c6
  have f0 := hs5.fz 0 (by omega)
  have f1 := hs5.fz 1 (by omega)
  have f2 := hs5.fz 2 (by omega)
  have f3 := hs5.fz 3 (by omega)
  have f4 := hs5.fz 4 (by omega)
  have f5 := hs5.fz 5 (by omega)
  have f6 := hs5.fz 6 (by omega)
  have HS5 : Hid (StAt w5 (dkE E p S pv) s p mc mn tv x ∧ DiskAt w5 B p S pv5 r.2 ∧ Only (diskB p S pv) w4 w5 ∧ ∀ b, pv5.ownBlock = some b → pv.ownBlock = some b ∨ w4.heap.size ≤ b) := ⟨hs5, hd5, ho5, hp5⟩
  have hfit : Hid (needN x ≤ freeN x x.size) := by
   rw [List.length_take, freeL_len] at heq
   have := HE.out.2.1
   show needN x ≤ freeN x x.size
   omega
  clear hs5 hd5 ho5 hp5 HW5
  by_cases hz : r.1 = 0
  ·obtain ⟨EP, hE⟩ : ∃ E, E = (x.epoch + 1) % 18446744073709551616 := ⟨_, rfl⟩
   have hEp := hwf.epoch
   have eE : IntKind.u64.wrap ((x.epoch : Int) + 1) = (EP : Int) := by rw [IntKind.wrap_u64, hE]; omega
   have hsec : x.sector ≤ 4 := by have := hwf.sector; omega
   obtain ⟨q, hq⟩ : ∃ q, q = 4 - x.sector := ⟨_, rfl⟩
   have HEQ : Hid (EP = (x.epoch + 1) % 18446744073709551616 ∧ q = 4 - x.sector) := ⟨hE, hq⟩
   have HOt : Hid (∀ W, W.cell? ⟨s, 3, none⟩ = some (.int .i64 (x.sector : Nat)) → Calls Tryz.prog 59 #[.pointer (some ⟨s, 0, none⟩)] W fun e W2 => e = .returned (.int .i64 (q : Nat)) ∧ W2 = W) := fun W hW => by rw [hq]; exact other_raw s x.sector W hW hsec
   obtain ⟨p1, p2, p3, p4, p5⟩ := HP.out
   obtain ⟨g1, g2, g3, g4⟩ := HS5.out
   have o14 : Only (fun _ => False) w1 w4 := HOQ.out.trans O4.out (fun _ _ e => e)
   have o15 : Only (diskB p S pv) w1 w5 := (o14.mono (fun _ _ e => e.elim)).trans g3 (fun _ _ e => e)
   have hmls : ml ≠ s := by omega
   have hRs : R ≠ s := by have := HWQ.out.2; have := p5.size; omega
   have hRd : ¬ diskB p S pv R := fun e => by have := hd0 R e; have := HWQ.out.2; have := p5.size; omega
   have hmd : ¬ diskB p S pv ml := fun e => by have := hd0 ml e; omega
   have qR : w5.cell? ⟨R, 1, none⟩ = some (.map (some ml)) := g3.cell ((HC4.out w4 O4.out).2.1) hRd
   obtain ⟨sl, hm, hbd⟩ := p3
   have hm5 : MapAt w5 ml ((laid x).map fun p => (p.1, pgV sl p)) := hm.frame o15 hmd
   obtain ⟨rs, ts⟩ := range_sets g1.cells g1.there (.int .u64 (EP : Nat)) (.int .i64 (q : Nat)) (.slice a2 (nd - F) c2)
   have os : Only (fun b => b = s) w5 (((w5.setCell ⟨s, 2, none⟩ (.int .u64 (EP : Nat))).setCell ⟨s, 3, none⟩ (.int .i64 (q : Nat))).setCell ⟨s, 4, none⟩ (.slice a2 (nd - F) c2)) := only_sets w5 s [(2, .int .u64 (EP : Nat)), (3, .int .i64 (q : Nat)), (4, .slice a2 (nd - F) c2)]
   have HTk : Hid (Calls Tryz.prog 31 _ _ _) := take_any s ml _ _ _ _ _ _ _ _ _ rs ts (hm5.frame os hmls)
   have HFin : Hid (∀ W10, (W10.rangeAt s 0 [.pointer (some ⟨p, 0, none⟩), .int .i64 (x.size : Nat), .int .u64 (EP : Nat), .int .i64 (q : Nat), .slice a2 (nd - F) c2, .map (some ml), .map (some (((w5.setCell ⟨s, 2, none⟩ (.int .u64 (EP : Nat))).setCell ⟨s, 3, none⟩ (.int .i64 (q : Nat))).setCell ⟨s, 4, none⟩ (.slice a2 (nd - F) c2)).heap.size)] ∧ W10.there s 0 7 ∧ MapAt W10 (((w5.setCell ⟨s, 2, none⟩ (.int .u64 (EP : Nat))).setCell ⟨s, 3, none⟩ (.int .i64 (q : Nat))).setCell ⟨s, 4, none⟩ (.slice a2 (nd - F) c2)).heap.size ((laid x).map fun p => (p.1, pgV sl p)) ∧ MapAt W10 ml ((laid x).map fun p => (p.1, pgV sl p)) ∧ Only (fun k => k = s) (((w5.setCell ⟨s, 2, none⟩ (.int .u64 (EP : Nat))).setCell ⟨s, 3, none⟩ (.int .i64 (q : Nat))).setCell ⟨s, 4, none⟩ (.slice a2 (nd - F) c2)) W10) → CmIsE E x d w' B p S s pv (.returned (.int .i64 0)) W10) := by
    rintro W10 ⟨z1, z2, z3, z4, z5⟩
    have hs9 := os.size
    obtain ⟨W9, hW9⟩ : ∃ V, V = ((w5.setCell ⟨s, 2, none⟩ (.int .u64 (EP : Nat))).setCell ⟨s, 3, none⟩ (.int .i64 (q : Nat))).setCell ⟨s, 4, none⟩ (.slice a2 (nd - F) c2) := ⟨_, rfl⟩
    rw [← hW9] at z1 z3 z5 os hs9
    have o10 : Only (fun b => b = s) w5 W10 := os.trans z5 (fun _ _ e => e)
    have s14 := o14.size
    have s5 := g3.size
    have sp := p5.size
    have ow4 : Only (fun _ => False) w' w4 := p5.trans o14 (fun _ _ e => e)
    have o410 : Only (fun k => diskB p S pv k ∨ k = s) w4 W10 := (g3.mono (fun _ _ e => .inl e)).trans (o10.mono (fun _ _ e => .inr e)) (fun _ _ e => e)
    have oAll : Only (fun k => diskB p S pv k ∨ k = s) w' W10 := (ow4.mono (fun _ _ e => e.elim)).trans o410 (fun _ _ e => e)
    have hls := z3.lt
    have hdn : ∀ b, diskB p S pv5 b → diskB p S pv b ∨ w4.heap.size ≤ b := fun b e => by
     rcases e with e | e | e
     ·exact .inl (.inl e)
     ·exact .inl (.inr (.inl e))
     ·rcases g4 b e with e | e
      ·exact .inl (.inr (.inr e))
      ·exact .inr e
    have hdl : ∀ b, diskB p S pv5 b → b < w5.heap.size := fun b e => (g2.lt b e).2
    have hd10 : DiskAt W10 B p S pv5 r.2 := g2.frame o10 (fun b e e' => by
     rcases hdn b e with e | e
     ·exact hdisk (e' ▸ e)
     ·omega)
    have hown : ∀ b, pv5.ownBlock = some b → pv.ownBlock = some b ∨ w'.heap.size ≤ b := fun b e => by
     rcases g4 b e with e | e
     ·exact .inl e
     ·exact .inr (by omega)
    have hfit' := hfit.out
    have htl : tbs x = ((freeL x x.size).take nd).drop F := by unfold tbs; rw [HE.out.1, HE.out.2.1]
    have e3 : (tbs x).length = nd - F := by rw [htl, List.length_drop, heq]
    have hub : ∀ b, (Value.slice a2 (nd - F) c2).ownBlock = some b → w3.heap.size ≤ b ∧ b < w4.heap.size := fun b e => HU2.out b e
    have s3 := O3.out.size
    have sq := HOQ.out.size
    have mlt : ml < w4.heap.size := by have := hm.lt; omega
    refine .inr (.inr ⟨hfit', by rw [← HR.out]; exact hz, rfl, pv5, ml, W9.heap.size, .slice a2 (nd - F) c2, by rw [← HR.out]; exact hd10, ?_, oAll, hown, p2, by omega⟩)
    have pg : ∀ p' ∈ laid x, BytesAt W10 (sl p'.1) p'.2.2 ∧ ∀ b, (sl p'.1).ownBlock = some b → b < W10.heap.size ∧ ¬ mutB (dkE E p S pv5) s ml W9.heap.size b := fun p' hp' => by
     obtain ⟨y1, y2⟩ := hbd p' hp'
     have yb : ∀ b, (sl p'.1).ownBlock = some b → b < w'.heap.size ∧ ¬ mutB (dkE E p S pv) s mc mn b := fun b e => by
      have := (y2 b e).2
      exact ⟨Nat.lt_of_not_le (fun e' => this (.inr e')), fun e' => this (.inl e')⟩
     refine ⟨(y1.keep o14 (fun _ _ e => e)).keep o410 (fun b e e' => ?_), fun b e => ⟨by have := (yb b e).1; have := oAll.size; omega, fun e' => ?_⟩⟩
     ·rcases e' with e' | e'
      ·exact (yb b e).2 (.inr (.inr (.inr (.inl e'))))
      ·exact (yb b e).2 (.inl e')
     ·have hb1 := (yb b e).1
      rcases e' with e' | e' | e' | e' | e'
      ·exact (yb b e).2 (.inl e')
      ·omega
      ·omega
      ·rcases hdn b e' with e' | e'
       ·exact (yb b e).2 (.inr (.inr (.inr (.inl e'))))
       ·omega
      ·exact (yb b e).2 (.inr (.inr (.inr (.inr e'))))
    exact { cells := by
             have e1 := HEQ.out.1
             have e2 := HEQ.out.2
             show W10.rangeAt s 0 [.pointer (some ⟨p, 0, none⟩), .int .i64 (x.size : Nat), .int .u64 (((x.epoch + 1) % 18446744073709551616 : Nat) : Int), .int .i64 ((4 - x.sector : Nat) : Int), .slice a2 (nd - F) c2, .map (some ml), .map (some W9.heap.size)]
             rw [← e1, ← e2]
             exact z1
            there := z2, d1 := fun e => hmls e.symm, d2 := by omega, d3 := by omega
            k1 := fun e => by
             rcases e with e | e
             ·rcases hdn s e with e | e
              ·exact hdisk e
              ·omega
             ·exact hEs e
            k2 := fun e => by
             rcases e with e | e
             ·rcases hdn ml e with e | e
              ·exact hmd e
              ·omega
             ·have := hEl _ e; omega
            k3 := fun e => by
             rcases e with e | e
             ·have := hdl _ e; omega
             ·have := hEl _ e; omega
            tabs := by
             show RowAt W10 (.slice a2 (nd - F) c2) (tbs x).length 1 (fun j => .int .i64 ((tbs x).getD j 0 : Nat))
             have := HI2.out
             rw [← htl] at this
             refine RowAt.keep this o410 (fun b e e' => ?_)
             have hb1 := hub b e
             rcases e' with e' | e'
             ·have := hd0 b e'; omega
             ·omega
            tabsB := fun b e => by
             have hb1 := hub b e
             refine ⟨by have := o410.size; omega, fun e' => ?_⟩
             rcases e' with e' | e' | e' | e' | e'
             ·omega
             ·have := hm.lt; omega
             ·omega
             ·rcases hdn b e' with e' | e'
              ·have := hd0 b e'; omega
              ·omega
             ·have := hEl b e'; omega
            com := ⟨sl, z4, pg⟩, now := ⟨sl, z3, pg⟩, wf := next_wf hwf hfit' }
   clear p1 p2 p4 p5 g1 g2 g3 g4 o14 o15 hm hbd hm5 rs ts os hE hq hRd hmd heq
   go_wp2_with (first | (go_at_call 59; refine (HOt.out _ (by go_simp)).mono ?_; rintro e wz ⟨rfl, rfl⟩))
   refine (show Calls Tryz.prog 31 _ _ _ from HTk.out).mono ?_
   rintro e W10 ⟨rfl, hz9⟩
   have HZ9 := HFin.out W10 hz9
   have HZ : Hid (CmIsE E x d w' B p S s pv (.returned (.int .i64 0)) W10) := HZ9
   clear hz9 HZ9 HFin HTk
   go_wp2
   go_ret
   exact HZ.out
  ·have hz' : (r.1 == 0) = false := by simpa using hz
   go_wp2
   go_ret
   obtain ⟨k1, k2⟩ := dead_set c0 (.int .i64 0) (.int .u64 0) (.int .i64 0) (.slice none 0 0) (.map none) (.map none)
   obtain ⟨g1, g2, g3, g4⟩ := HS5.out
   have ow4 : Only (fun _ => False) w' w4 := (HP.out.2.2.2.2.trans HOQ.out (fun _ _ e => e)).trans O4.out (fun _ _ e => e)
   have s4 := ow4.size
   refine .inr (.inl ⟨hfit.out, by rw [← HR.out]; exact hz, rfl, pv5, ?_, k1, ((ow4.mono (fun _ _ e => e.elim)).trans (g3.mono (fun _ _ e => .inl e)) (fun _ _ e => e)).trans (k2.mono (fun _ _ e => .inr e)) (fun _ _ e => e), fun b e => ?_⟩)
   ·rw [← HR.out]
    refine g2.frame k2 (fun b e e' => ?_)
    subst e'
    rcases e with e | e | e
    ·exact hdisk (.inl e)
    ·exact hdisk (.inr (.inl e))
    ·rcases g4 _ e with e | e
     ·exact hdisk (.inr (.inr e))
     ·omega
   ·rcases g4 b e with e | e
    ·exact .inl e
    ·exact .inr (by omega)
end Go.Proofs.YtlcglapcmdpkfaaGreat
