import Derived.Test.YtlcglapcmdpkfaaGreatG10
import Derived.Test.YtlcglapcmdpkfaaGreatA6
import Derived.Test.YtlcglapcmdpkfaaGreatQ9
namespace Go.Proofs.YtlcglapcmdpkfaaGreat
open Go.RowKit
set_option linter.unusedSimpArgs false
set_option linter.unusedVariables false
theorem emptyI (w : World) : (Instr.buildSlice 76 0 #[]).run Tryz.prog w = .ok (.slice (some ⟨w.heap.size, 0, none⟩) 0 0) (w.alloc (.cells #[] 3)) := by kernel_rfl
theorem copy_ints (w : World) (v : Value) (A : List Nat) (hv : IntsAt w v A) (hl : A.length ≤ 1048576) :
  ∃ a cap w', (∀ ty, (Builtin.append_ #[76, 76] ty #[.slice (some ⟨w.heap.size, 0, none⟩) 0 0, v]).run Tryz.prog (w.alloc (.cells #[] 3)) = .ok (.slice a A.length cap) w') ∧ FreshI w' w.heap.size (.slice a A.length cap) A ∧ Only (fun _ => False) w w' := by
 obtain ⟨i, hi, hz, hsize, hby⟩ := info_parts info3
 have hown : (w.alloc (.cells #[] 3)).ownsRow w.heap.size 3 1 (.slice (some ⟨w.heap.size, 0, none⟩) 0 0) 0 [] := World.ownsRow_made w #[] 0 (Nat.le_refl _) (Nat.zero_le _) rfl
 have oA : Only (fun _ => False) w (w.alloc (.cells #[] 3)) := (Only.refl _ w).alloc _
 rcases hv with ⟨rfl, h0⟩ | ⟨ad, c, rfl, hkc, hc⟩
 ·obtain rfl : A = [] := List.eq_nil_of_length_eq_zero h0
  exact ⟨some ⟨w.heap.size, 0, none⟩, 0, _, fun ty => run_append_owned_none _ w.heap.size 76 ty 3 i 1 Tryz.underlying76 hi _ 0 [] hown, ⟨by simpa [IL] using hown, by simp⟩, oA⟩
 ·have hnews : ∀ j u, (IL A)[j]? = some u → (w.alloc (.cells #[] 3)).cell? (ad.add j) = some u := fun j u hu => by
   have hj : j < A.length := by have := (List.getElem?_eq_some_iff.1 hu).1; simpa [IL] using this
   rw [IL_get A j hj] at hu
   rw [← hu]
   exact oA.cell (hc j (by omega)) (fun e => e)
  have h1 : ∀ u ∈ IL A, u.oneCell' = true := fun u hu => by obtain ⟨j, _, rfl⟩ := List.mem_map.1 hu; rfl
  have key := fun ty => run_append_own_at (P := Tryz.prog) (w.alloc (.cells #[] 3)) w.heap.size 76 ty 3 i _ 1 8 Tryz.underlying76 hi hz hsize hby rfl (by omega) _ 0 [] hown ad A.length c (IL A) (by simp [IL]) hnews h1 (by unfold maxLen; omega) (by omega) (by simp)
  obtain ⟨v', w', hr, own', hg, _, _⟩ := key 0
  obtain ⟨a, cap, rfl⟩ := ownsRow_slice own'
  rw [Nat.zero_add] at own' hr
  exact ⟨a, cap, w', fun ty => by rw [← hr]; rfl, ⟨by simpa using own', hl⟩, oA.grown hg (fun k e hk => by simp [Value.ownBlock] at e; omega)⟩
theorem nil_toI (w : World) : (Instr.slice 76 (.slice none 0 0) none (some (.int .i64 0)) none).run Tryz.prog w = .ok (.slice none 0 0) w := by kernel_rfl
theorem FreshI.to {w : World} {B : Nat} {v : Value} {zs : List Nat} (h : FreshI w B v zs) (k : Nat) (hk : k ≤ zs.length) :
  ∃ a2 c2, (∀ w', (Instr.slice 76 v none (some (.int .i64 (k : Nat))) none).run Tryz.prog w' = .ok (.slice a2 k c2) w') ∧ IntsAt w (.slice a2 k c2) (zs.take k) ∧ ∀ b, (Value.slice a2 k c2).ownBlock = some b → v.ownBlock = some b := by
 have hlt : (zs.take k).length = k := by simp [Nat.min_eq_left hk]
 rcases h.1.2 with ⟨rfl, h0⟩ | ⟨g, cap, cur, rfl, hB, hg, hcap, _, _, _⟩
 ·obtain rfl : k = 0 := by omega
  exact ⟨none, 0, fun w' => nil_toI w', .inl ⟨rfl, by simp⟩, fun b e => by cases e⟩
 ·have hcap' : zs.length ≤ cap := by simpa using hcap
  have k0 : (0 : Int) ≤ (k : Int) := by omega
  have k1 : (k : Int) ≤ (cap : Int) := by omega
  have e1 : ((k : Int)).toNat = k := by omega
  refine ⟨some ⟨g, 0, none⟩, cap, fun w' => by go_simp, ?_, fun b e => e⟩
  unfold IntsAt
  rw [hlt]
  refine .inr ⟨⟨g, 0, none⟩, cap, rfl, by omega, fun j hj => ?_⟩
  rw [Addr.add_mid, Nat.zero_add, h.1.cellAt j (by omega), IL_get zs j (by omega)]
  have hj' : j < k := by omega
  simp [List.getD, hj']
theorem rpL_set (v : Int) (n m : Nat) (h : m < n) : (rpL v n m).set m (.int .i64 v) = rpL v n (m + 1) := by
 unfold rpL
 rw [List.set_append_right _ _ (by simp)]
 simp only [List.length_replicate, Nat.sub_self]
 rw [show n - m = (n - (m + 1)) + 1 by omega, List.replicate_succ, List.set_cons_zero, List.replicate_succ', List.append_assoc]
 rfl
theorem RBlk.set {w : World} {g : Nat} {v : Int} {n m : Nat} (h : RBlk w g v n m) (hm : m < n) : RBlk (w.setCell ⟨g, m, none⟩ (.int .i64 v)) g v n (m + 1) := by
 unfold RBlk
 rw [heap_setCell_same w g m _ _ _ h, ← rpL_set v n m hm]
 congr 2
 simp
theorem RBlk.zero (w : World) (v : Int) (n : Nat) : rpL 0 n 0 = rpL v n 0 := by simp [rpL]
section
variable {w : World} {rk : Nat → Prop} {B r q : Nat} {tv kv nv : Value} {x : SS} {lk ln : List RPg}
def RmIs (x : SS) (w : World) (e : Ending) (w' : World) : Prop :=
 ∃ u, e = .returned (.tuple #[.int .i64 (freeN x x.size : Nat), .int .i64 (needN x : Nat), u]) ∧ Only (fun _ => False) w w' ∧ (needN x ≤ freeN x x.size → FreshI w' w.heap.size u ((freeL x x.size).take (needN x)))
set_option maxRecDepth 100000 in
set_option maxHeartbeats 4000000 in
theorem rroom_any (h : RsAt w rk B r q tv kv nv x lk ln) (dn : Nat) (hq : w.cell? ⟨q, 0, none⟩ = some (.int .i64 dn)) (hdn : dn ≤ 8192) (hsz : dn / 4 = x.size) :
  Calls Tryz.prog 60 #[.pointer (some ⟨r, 0, none⟩)] w fun e w' => Hid (RmIs x w e w') := by
 have HU : Hid (Calls Tryz.prog 86 _ _ _) := rused_any h dn hq hdn hsz
 have HH : Hid (RsAt w rk B r q tv kv nv x lk ln) := h
 have HQ : Hid (w.cell? ⟨q, 0, none⟩ = some (.int .i64 dn) ∧ dn ≤ 8192 ∧ dn / 4 = x.size) := ⟨hq, hdn, hsz⟩
 have hN := h.wf.size
 have hwf := h.wf
 have hn7 := h.n728
 obtain ⟨N, hNe⟩ : ∃ N, N = x.size := ⟨_, rfl⟩
 obtain ⟨g, hge⟩ : ∃ g, g = w.heap.size := ⟨_, rfl⟩
 have HE : Hid (N = x.size ∧ g = w.heap.size) := ⟨hNe, hge⟩
 rw [← hNe] at HU hN
 rw [← hge] at HU
 have hfl := freeN_le x N
 obtain ⟨F, hF⟩ : ∃ F, F = freeN x N := ⟨_, rfl⟩
 have HF : Hid (F = freeN x N) := hF
 obtain ⟨n, hn⟩ : ∃ n, n = putN x := ⟨_, rfl⟩
 have HPN : Hid (n = putN x) := hn
 have hpn := putN_le x
 have hn8 : n ≤ 728 := by omega
 have hF8 : F ≤ 2048 := by omega
 obtain ⟨A0, hA0⟩ : ∃ A0, A0 = (freeL x N).take n := ⟨_, rfl⟩
 obtain ⟨T, hT⟩ : ∃ T, T = tabN (tabB (layP x.now A0)).length := ⟨_, rfl⟩
 have HA0 : Hid (A0 = (freeL x N).take n ∧ T = tabN (tabB (layP x.now A0)).length) := ⟨hA0, hT⟩
 have HA7 : Hid (∀ a ∈ A0, a < 2048) := fun a ha => by
  rw [hA0] at ha
  have := (freeL_mem.1 (List.mem_of_mem_take ha)).1
  omega
 have HTS : Hid (∀ A : List Nat, (∀ a ∈ A, a < 2048) → (tabB (layP x.now A)).length ≤ 2912) := fun A hA => tab_small hwf hn7 hA
 clear hq hdn hsz hNe hge hfl hF hn hpn hA0 hT h
 go_enter Tryz.func60, Tryz.ntmps60
 go_wp2_with fail
 refine (show Calls Tryz.prog 86 _ _ _ from HU.out).mono ?_
 rintro e w1 ⟨rfl, H1⟩
 clear HU
 go_wp2_with fail
 go_loopw [2, 6] (fun c t W => ∃ k : Nat, k ≤ N ∧ t = .int .i64 k ∧ c = .int .i64 (freeN x k : Nat) ∧ W = w1) (fun _ t _ => N - (intOf t).toNat)
 case atStart => exact ⟨0, Nat.zero_le _, rfl, rfl, rfl⟩
 case round =>
  obtain ⟨k, hk, rfl, rfl, rfl⟩ := hrel
  have hfk := freeN_le x k
  by_cases hlt : k < N
  ·have hc := H1.out.1.cell k hlt
   have HS : Hid (freeN x (k + 1) = freeN x k + (if usedF x k = true then 0 else 1)) := rfl
   obtain ⟨fk, hfke⟩ : ∃ q, q = freeN x k := ⟨_, rfl⟩
   rw [← hfke] at HS hfk
   rw [← hfke]
   have i0 : (0 : Int) ≤ (k : Int) := Int.natCast_nonneg _
   have i1 : (k : Int) < (N : Int) := by omega
   clear hfke
   cases hu : usedF x k
   ·rw [hu] at hc HS
    rw [if_neg (by decide)] at HS
    clear hu
    go_wp2
    go_roundw
    case rel => exact ⟨k + 1, by omega, by go_num, by rw [HS.out]; go_num, trivial⟩
    case measure => simp [intOf]; omega
   ·rw [hu] at hc HS
    rw [if_pos rfl] at HS
    clear hu
    go_wp2
    go_roundw
    case rel => exact ⟨k + 1, by omega, by go_num, by rw [HS.out]; rfl, trivial⟩
    case measure => simp [intOf]; omega
  ·obtain rfl : k = N := by omega
   rw [← HF.out]
   have HFr : Hid (Calls Tryz.prog 87 _ _ _) := rfresh_any (HH.out.still H1.out.2)
   rw [show (freshN x.now).length = putN x from rfl, ← HPN.out] at HFr
   clear hfk hlt
   go_wp2_with fail
   refine (show Calls Tryz.prog 87 _ _ _ from HFr.out).mono ?_
   rintro e w2 ⟨rfl, rfl⟩
   clear HFr
   go_wp2_with fail
   go_loopw [2, 3, 4, 8, 9, 10] (fun u2 u3 u4 t u9 u10 W => ∃ j : Nat, j ≤ T ∧ j ≤ F + 1 ∧ u2 = .int .i64 (F : Nat) ∧ t = .int .i64 j ∧ Hid (Only (fun _ => False) w2 W)) (fun _ _ _ t _ _ _ => F + 2 - (intOf t).toNat)
   case atStart => exact ⟨0, Nat.zero_le _, by omega, rfl, rfl, Only.refl _ _⟩
   case round =>
    obtain ⟨j, hjT, hjF, rfl, rfl, HO⟩ := hrel
    obtain ⟨wq, rfl⟩ : ∃ q, q = wr := ⟨_, rfl⟩
    by_cases hlt : n + j ≤ F
    ·have HFi : Hid (Calls Tryz.prog 88 #[.slice (some ⟨g, 0, none⟩) k k, .int .i64 ((n + j : Nat) : Int)] wq fun e w4 => FirstIs ((freeL x k).take (n + j)) (n + j) wq e w4) := by
      have hf3 : FBlk wq g k (usedF x) := H1.out.1.frame HO.out (fun e => e)
      have := rfirst_ok _ _ (n + j) wq (hf3.flags (by omega)) (by rw [flF_length]; omega)
      have e2 := fr_free_all x (n + j)
      rw [← HE.out.1] at e2
      rw [e2] at this
      exact this
     have i1 : (n : Int) + (j : Int) ≤ (F : Int) := by omega
     rw [show ((n + j : Nat) : Int) = (n : Int) + (j : Int) by omega] at HFi
     go_wp2_with fail
     refine (show Calls Tryz.prog 88 _ _ _ from HFi.out).mono ?_
     rintro e w4 he
     clear HFi
     have hll : ((freeL x k).take (n + j)).length = n + j := by rw [List.length_take, freeL_len]; have := HF.out; omega
     rcases he with ⟨hl, _, _⟩ | ⟨_, u, rfl, hu, ho4⟩
     ·omega
     ·obtain ⟨au, cu, hue, _⟩ := hu.form
      rw [hll] at hue
      subst hue
      obtain ⟨a5, c5, s5, hi5, _⟩ := hu.to n (by omega)
      rw [List.take_take, Nat.min_eq_left (by omega), ← HA0.out.1] at hi5
      have o4 : Only (fun _ => False) w2 w4 := HO.out.trans ho4 (fun _ _ e => e)
      have HTb : Hid (Calls Tryz.prog 90 _ _ _) := rtable_any ((HH.out.still H1.out.2).still o4) (.slice a5 n c5) A0 hi5 (by rw [HA0.out.1, List.length_take, freeL_len, ← HF.out, HPN.out]; show putN x ≤ _; have := HPN.out; omega) HA7.out
      obtain ⟨M, hM⟩ : ∃ M, M = (tabB (layP x.now A0)).length := ⟨_, rfl⟩
      have hM2 := HTS.out A0 HA7.out
      rw [← hM] at HTb hM2
      have HMT : Hid (tabN M = T) := by rw [hM]; exact HA0.out.2.symm
      have HU5 : Hid (FreshI w4 wq.heap.size (.slice au (n + j) cu) ((freeL x k).take (n + j)) ∧ Only (fun _ => False) w2 w4) := ⟨hu, o4⟩
      have i2 : (n : Int) ≤ (cu : Int) := by
       rcases hu.1.2 with ⟨hv, h0⟩ | ⟨g', cap', cur', hv, _, _, hcap, _⟩
       ·simp only [Value.slice.injEq] at hv; omega
       ·simp only [Value.slice.injEq] at hv; have := hv.2.2; rw [hll] at hcap; omega
      clear hM hi5 hu ho4 o4 hll
      go_wp2_with fail
      refine (show Calls Tryz.prog 90 _ _ _ from HTb.out).mono ?_
      rintro e w5 ⟨a6, c6, rfl, H5⟩
      have HTn : Hid (Calls Tryz.prog 89 _ _ _) := tables_any M w5 (by omega)
      rw [HMT.out] at HTn
      clear HTb
      go_wp2_with fail
      refine (show Calls Tryz.prog 89 _ _ _ from HTn.out).mono ?_
      rintro e w6 ⟨rfl, rfl⟩
      clear HTn
      by_cases hTj : T ≤ j
      ·obtain rfl : T = j := by omega
       have o6 : Only (fun _ => False) w2 w6 := HU5.out.2.trans H5.out.2 (fun _ _ e => e)
       have hu6 : FreshI w6 wq.heap.size (.slice au (n + T) cu) ((freeL x k).take (n + T)) := HU5.out.1.frame H5.out.2
       have hll : ((freeL x k).take (n + T)).length = n + T := by rw [List.length_take, freeL_len]; have := HF.out; omega
       obtain ⟨a7, c7, w7, hr7, hf7, ho7⟩ := copy_ints w6 (.slice au (n + T) cu) ((freeL x k).take (n + T)) hu6.ints (by rw [hll]; omega)
       rw [hll] at hr7 hf7
       have HR7 : Hid _ := hr7
       have HQF : Hid (RmIs x w (.returned (.tuple #[.int .i64 (F : Nat), .int .i64 ((n + T : Nat) : Int), .slice a7 (n + T) c7])) w7) := by
        have hfit : putN x ≤ freeN x x.size ∧ needA x ((freeL x x.size).take (putN x)) ≤ freeN x x.size := by
         unfold needA
         rw [← HE.out.1, ← HPN.out, ← HA0.out.1, ← HA0.out.2, ← HF.out]
         omega
        have hnd : needN x = n + T := by
         unfold needN plA
         rw [if_pos hfit]
         unfold needA
         rw [← HE.out.1, ← HPN.out, ← HA0.out.1, ← HA0.out.2]
        refine ⟨_, by rw [hnd, ← HE.out.1, ← HF.out], ((H1.out.2.trans o6 (fun _ _ e => e)).trans ho7 (fun _ _ e => e)), fun _ => ?_⟩
        rw [hnd, ← HE.out.1]
        refine ⟨⟨hf7.1.1, ?_⟩, hf7.2⟩
        rcases hf7.1.2 with e | ⟨g', cap, cur, hv, hb, rest⟩
        ·exact .inl e
        ·exact .inr ⟨g', cap, cur, hv, by have := (H1.out.2.trans o6 (fun _ _ e => e)).size; omega, rest⟩
       rw [show ((n + T : Nat) : Int) = (n : Int) + (T : Int) by omega] at HQF
       have hem := emptyI
       have i3 : (T : Int) ≤ (T : Int) := Int.le_refl _
       clear hr7 hf7 ho7 o6 hu6 hll hTj
       go_wp2_with (at_builtin; refine wpList_append_run rfl _ _ 76 rfl (.slice (some ⟨w6.heap.size, 0, none⟩) 0 0) (.slice au (n + T) cu) (.slice a7 (n + T) c7) rfl rfl HR7.out ?_)
       go_ret3
       exact HQF
      ·have hTj2 : ¬ (T : Int) ≤ (j : Int) := by omega
       have HO6 : Hid (Only (fun _ => False) w2 w6) := HU5.out.2.trans H5.out.2 (fun _ _ e => e)
       clear HU5 H5 HO
       go_wp2
       go_roundw
       case rel => exact ⟨j + 1, by omega, by omega, rfl, by go_num, HO6⟩
       case measure => simp [intOf]; omega
    ·have i1 : ¬ (n : Int) + (j : Int) ≤ (F : Int) := by omega
     have HNF : Hid (¬ (putN x ≤ freeN x x.size ∧ needA x ((freeL x x.size).take (putN x)) ≤ freeN x x.size)) := by
      unfold needA
      show ¬ _
      rw [← HE.out.1, ← HPN.out, ← HA0.out.1, ← HA0.out.2, ← HF.out]
      omega
     have hmk := make_ints n (by omega) wq
     obtain ⟨Z, hZ⟩ : ∃ Z, Z = (rpL 0 n 0).toArray := ⟨_, rfl⟩
     rw [← hZ] at hmk
     have HZ : Hid (RBlk (wq.alloc (.cells Z 3)) wq.heap.size ((k - 1 : Nat) : Int) n 0) := by
      show _ = _
      rw [hZ, RBlk.zero wq ((k - 1 : Nat) : Int) n]
      exact heap_alloc_new wq _
     clear hZ
     go_wp2_with fail
     clear hmk hjT hjF hlt
     go_loopw [12] (fun t W => ∃ i : Nat, i ≤ n ∧ t = .int .i64 i ∧ RBlk W wq.heap.size ((k - 1 : Nat) : Int) n i ∧ Only (fun _ => False) wq W) (fun t _ => n - (intOf t).toNat)
     case atStart => exact ⟨0, Nat.zero_le _, rfl, HZ.out, (Only.refl _ _).alloc _⟩
     case round =>
      obtain ⟨i, hi, rfl, hb, ho⟩ := hrel
      obtain ⟨wq2, rfl⟩ : ∃ q, q = wr := ⟨_, rfl⟩
      by_cases hlt2 : i < n
      ·have o2 : Only (fun _ => False) w wq2 := (H1.out.2.trans HO.out (fun _ _ e => e)).trans ho (fun _ _ e => e)
       have y0 := o2.cell HH.out.c0 (fun e => e)
       have HC : Hid (Calls Tryz.prog 71 _ _ _) := rcount_any q dn wq2 HQ.out.2.1 (o2.cell HQ.out.1 (fun e => e))
       rw [HQ.out.2.2, ← HE.out.1] at HC
       obtain ⟨u, hu⟩ : ∃ u, wq2.cell? ⟨wq.heap.size, i, none⟩ = some u := by
        refine ⟨.int .i64 0, ?_⟩
        rw [cell_of_row _ _ _ _ _ _ hb]
        simp only [List.getElem?_toArray, rpL]
        rw [List.getElem?_append_right (by simp)]
        simp only [List.length_replicate, Nat.sub_self]
        rw [List.getElem?_replicate, if_pos (by omega)]
       have hfz : wq2.frozen? ⟨wq.heap.size, i, none⟩ = false := frozen_of_row _ _ _ _ _ hb
       have HS : Hid (RBlk (wq2.setCell ⟨wq.heap.size, i, none⟩ (.int .i64 ((k - 1 : Nat) : Int))) wq.heap.size ((k - 1 : Nat) : Int) n (i + 1) ∧ Only (fun _ => False) wq (wq2.setCell ⟨wq.heap.size, i, none⟩ (.int .i64 ((k - 1 : Nat) : Int)))) := ⟨hb.set hlt2, ho.setCell _ _ (fun e => by simp at e)⟩
       rw [show ((k - 1 : Nat) : Int) = (k : Int) - 1 by omega] at HS
       have i0 : (0 : Int) ≤ (i : Int) := Int.natCast_nonneg _
       have i1' : (i : Int) < (n : Int) := by omega
       clear hb ho o2
       go_wp2_with fail
       refine (show Calls Tryz.prog 71 _ _ _ from HC.out).mono ?_
       rintro e w9 ⟨rfl, rfl⟩
       clear HC
       go_wp2
       go_roundw
       case rel => rw [show ((k - 1 : Nat) : Int) = (k : Int) - 1 by omega]; exact ⟨i + 1, by omega, by go_num, HS.out.1, HS.out.2⟩
       case measure => simp [intOf]; omega
      ·obtain rfl : i = n := by omega
       have hfull : IntsAt wq2 (.slice (some ⟨wq.heap.size, 0, none⟩) i i) (List.replicate i (k - 1)) := hb.ints
       have o2 : Only (fun _ => False) w wq2 := (H1.out.2.trans HO.out (fun _ _ e => e)).trans ho (fun _ _ e => e)
       have hpl : plA x = List.replicate i (k - 1) := by
        unfold plA
        rw [if_neg HNF.out, ← HPN.out, ← HE.out.1]
       have hR7 : ∀ a ∈ List.replicate i (k - 1), a < 2048 := fun a ha => by have := (List.mem_replicate.1 ha).2; omega
       have HTb : Hid (Calls Tryz.prog 90 _ _ _) := rtable_any (HH.out.still o2) _ _ hfull (by rw [List.length_replicate]; exact Nat.le_of_eq HPN.out.symm) hR7
       obtain ⟨M, hM⟩ : ∃ M, M = (tabB (layP x.now (List.replicate i (k - 1)))).length := ⟨_, rfl⟩
       have hM2 := HTS.out _ hR7
       rw [← hM] at HTb hM2
       have HND : Hid (needN x = i + tabN M) := by
        show needN x = _
        unfold needN needA
        rw [hpl, ← hM, ← HPN.out]
       have HO2 : Hid (Only (fun _ => False) w wq2) := o2
       clear hb ho hfull o2 hpl hR7 hM hlt2 hi
       go_wp2_with fail
       refine (show Calls Tryz.prog 90 _ _ _ from HTb.out).mono ?_
       rintro e w5 ⟨a6, c6, rfl, H5⟩
       have HTn : Hid (Calls Tryz.prog 89 _ _ _) := tables_any M w5 (by omega)
       have hTm : tabN M ≤ 27 := by unfold tabN; omega
       clear HTb
       go_wp2_with fail
       refine (show Calls Tryz.prog 89 _ _ _ from HTn.out).mono ?_
       rintro e w6 ⟨rfl, rfl⟩
       clear HTn
       have HQF : Hid (RmIs x w (.returned (.tuple #[.int .i64 (F : Nat), .int .i64 ((i : Int) + (tabN M : Nat)), .slice none 0 0])) w6) := by
        refine ⟨.slice none 0 0, by rw [HND.out, ← HE.out.1, ← HF.out, Int.natCast_add], HO2.out.trans H5.out.2 (fun _ _ e => e), fun hh => absurd ((plA_fits HH.out.wf).1 hh) HNF.out⟩
       go_wp2
       go_ret3
       exact HQF
end
end Go.Proofs.YtlcglapcmdpkfaaGreat
