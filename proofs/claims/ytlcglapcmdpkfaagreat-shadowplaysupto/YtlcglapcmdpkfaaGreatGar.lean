/-     -/
import Derived.Test.YtlcglapcmdpkfaaGreatGao
import Derived.Test.YtlcglapcmdpkfaaGreatGaq
import Derived.Test.YtlcglapcmdpkfaaGreatGai
import Derived.Test.YtlcglapcmdpkfaaGreatGae
import Derived.Test.YtlcglapcmdpkfaaGreatGah
import Derived.Test.YtlcglapcmdpkfaaGreatGaf
namespace Go.Proofs.YtlcglapcmdpkfaaGreat
open Go.RowKit
set_option linter.unusedSimpArgs false
set_option linter.unusedVariables false
set_option maxRecDepth 100000
set_option maxHeartbeats 16000000
theorem emptyI (w : World) : (Instr.buildSlice 76 0 #[]).run Tryz.prog w = .ok (.slice (some ⟨w.heap.size, 0, none⟩) 0 0) (w.alloc (.cells #[] 3)) := by kernel_rfl
theorem copy_ints (w : World) (v : Value) (A : List Nat) (hv : IntsAt w v A) (hl : A.length ≤ 1048576) :
  ∃ a cap w', (∀ ty, (Builtin.append_ #[76, 76] ty #[.slice (some ⟨w.heap.size, 0, none⟩) 0 0, v]).run Tryz.prog (w.alloc (.cells #[] 3)) = .ok (.slice a A.length cap) w') ∧ FreshI w' w.heap.size (.slice a A.length cap) A ∧ Only (fun _ => False) w w' := by
 obtain ⟨i, hi, hz, hsize, hby⟩ := info_parts info3
 have hown : (w.alloc (.cells #[] 3)).ownsRow w.heap.size 3 1 (.slice (some ⟨w.heap.size, 0, none⟩) 0 0) 0 [] := World.ownsRow_made w #[] 0 (Nat.le_refl _) (Nat.zero_le _) rfl
 have oA : Only (fun _ => False) w (w.alloc (.cells #[] 3)) := (Only.refl _ w).alloc _
 rcases hv with ⟨rfl, h0⟩ | ⟨ad, c, rfl, hkc, hc⟩
 ·obtain rfl : A = [] := List.eq_nil_of_length_eq_zero h0
  exact ⟨some ⟨w.heap.size, 0, none⟩, 0, _, fun ty => run_append_owned_none _ w.heap.size 76 ty 3 i 1 Tryz.underlying76 hi _ 0 [] hown, ⟨by simpa [IL] using hown, by simp⟩, oA⟩
 ·have hnews : ∀ j u, (IL A)[j]? = some u → (w.alloc (.cells #[] 3)).cell? (ad.add j) = some u := fun j u hu => by
   have hj : j < A.length := by have := (List.getElem?_eq_some_iff.1 hu).1; simpa [IL] using this
   rw [IL_get A j hj] at hu
   rw [← hu]
   exact oA.cell (hc j (by omega)) (fun e => e)
  have h1 : ∀ u ∈ IL A, u.oneCell' = true := fun u hu => by obtain ⟨j, _, rfl⟩ := List.mem_map.1 hu; rfl
  have key := fun ty => run_append_own_at (P := Tryz.prog) (w.alloc (.cells #[] 3)) w.heap.size 76 ty 3 i _ 1 8 Tryz.underlying76 hi hz hsize hby rfl (by omega) _ 0 [] hown ad A.length c (IL A) (by simp [IL]) hnews h1 (by unfold maxLen; omega) (by omega) (by simp)
  obtain ⟨v', w', hr, own', hg, _, _⟩ := key 0
  obtain ⟨a, cap, rfl⟩ := ownsRow_slice own'
  rw [Nat.zero_add] at own' hr
  exact ⟨a, cap, w', fun ty => by rw [← hr]; rfl, ⟨by simpa using own', hl⟩, oA.grown hg (fun k e hk => by simp [Value.ownBlock] at e; omega)⟩
theorem nil_toI (w : World) : (Instr.slice 76 (.slice none 0 0) none (some (.int .i64 0)) none).run Tryz.prog w = .ok (.slice none 0 0) w := by kernel_rfl
theorem FreshI.to {w : World} {B : Nat} {v : Value} {zs : List Nat} (h : FreshI w B v zs) (k : Nat) (hk : k ≤ zs.length) :
  ∃ a2 c2, (∀ w', (Instr.slice 76 v none (some (.int .i64 (k : Nat))) none).run Tryz.prog w' = .ok (.slice a2 k c2) w') ∧ IntsAt w (.slice a2 k c2) (zs.take k) ∧ ∀ b, (Value.slice a2 k c2).ownBlock = some b → v.ownBlock = some b := by
 have hlt : (zs.take k).length = k := by simp [Nat.min_eq_left hk]
 rcases h.1.2 with ⟨rfl, h0⟩ | ⟨g, cap, cur, rfl, hB, hg, hcap, _, _, _⟩
 ·obtain rfl : k = 0 := by omega
  exact ⟨none, 0, fun w' => nil_toI w', .inl ⟨rfl, by simp⟩, fun b e => by cases e⟩
 ·have hcap' : zs.length ≤ cap := by simpa using hcap
  have k0 : (0 : Int) ≤ (k : Int) := by omega
  have k1 : (k : Int) ≤ (cap : Int) := by omega
  have e1 : ((k : Int)).toNat = k := by omega
  refine ⟨some ⟨g, 0, none⟩, cap, fun w' => by go_simp, ?_, fun b e => e⟩
  unfold IntsAt
  rw [hlt]
  refine .inr ⟨⟨g, 0, none⟩, cap, rfl, by omega, fun j hj => ?_⟩
  rw [Addr.add_mid, Nat.zero_add, h.1.cellAt j (by omega), IL_get zs j (by omega)]
  have hj' : j < k := by omega
  simp [List.getD, hj']
theorem rpL_set (v : Int) (n m : Nat) (h : m < n) : (rpL v n m).set m (.int .i64 v) = rpL v n (m + 1) := by
 unfold rpL
 rw [List.set_append_right _ _ (by simp)]
 simp only [List.length_replicate, Nat.sub_self]
 rw [show n - m = (n - (m + 1)) + 1 by omega, List.replicate_succ, List.set_cons_zero, List.replicate_succ', List.append_assoc]
 rfl
theorem RBlk.set {w : World} {g : Nat} {v : Int} {n m : Nat} (h : RBlk w g v n m) (hm : m < n) : RBlk (w.setCell ⟨g, m, none⟩ (.int .i64 v)) g v n (m + 1) := by
 unfold RBlk
 rw [heap_setCell_same w g m _ _ _ h, ← rpL_set v n m hm]
 congr 2
 simp
theorem RBlk.zero (w : World) (v : Int) (n : Nat) : rpL 0 n 0 = rpL v n 0 := by simp [rpL]
section
variable {w : World} {rk : Nat → Prop} {B r q : Nat} {tv kv nv : Value} {x : SS} {lk ln : List RPg}
def RmIs (x : SS) (w : World) (e : Ending) (w' : World) : Prop :=
 ∃ u, e = .returned (.tuple #[.int .i64 (freeN x x.size : Nat), .int .i64 (needN x : Nat), u]) ∧ Only (fun _ => False) w w' ∧ (needN x ≤ freeN x x.size → FreshI w' w.heap.size u ((freeL x x.size).take (needN x)))
theorem rroom_any (h : RsAt w rk B r q tv kv nv x lk ln) (dn : Nat) (hq : w.cell? ⟨q, 0, none⟩ = some (.int .i64 dn)) (hdn : dn ≤ 8192) (hsz : dn / 4 = x.size) :
  Calls Tryz.prog 60 #[.pointer (some ⟨r, 0, none⟩)] w fun e w' => Hid (RmIs x w e w') := by
 have HU : Hid (Calls Tryz.prog 86 _ _ _) := rused_any h dn hq hdn hsz
 have HH : Hid (RsAt w rk B r q tv kv nv x lk ln) := h
 have HQ : Hid (w.cell? ⟨q, 0, none⟩ = some (.int .i64 dn) ∧ dn ≤ 8192 ∧ dn / 4 = x.size) := ⟨hq, hdn, hsz⟩
 have hN := h.wf.size
 have hwf := h.wf
 have hn7 := h.n728
 obtain ⟨N, hNe⟩ : ∃ N, N = x.size := ⟨_, rfl⟩
 obtain ⟨g, hge⟩ : ∃ g, g = w.heap.size := ⟨_, rfl⟩
 have HE : Hid (N = x.size ∧ g = w.heap.size) := ⟨hNe, hge⟩
 rw [← hNe] at HU hN
 rw [← hge] at HU
 have hfl := freeN_le x N
 obtain ⟨F, hF⟩ : ∃ F, F = freeN x N := ⟨_, rfl⟩
 have HF : Hid (F = freeN x N) := hF
 obtain ⟨n, hn⟩ : ∃ n, n = putN x := ⟨_, rfl⟩
 have HPN : Hid (n = putN x) := hn
 have hpn := putN_le x
 have hn8 : n ≤ 728 := by omega
 have hF8 : F ≤ 2048 := by omega
 obtain ⟨A0, hA0⟩ : ∃ A0, A0 = (freeL x N).take n := ⟨_, rfl⟩
 obtain ⟨T, hT⟩ : ∃ T, T = tabN (tabB (layP x.now A0)).length := ⟨_, rfl⟩
 have HA0 : Hid (A0 = (freeL x N).take n ∧ T = tabN (tabB (layP x.now A0)).length) := ⟨hA0, hT⟩
 have HA7 : Hid (∀ a ∈ A0, a < 2048) := fun a ha => by
  rw [hA0] at ha
  have := (freeL_mem.1 (List.mem_of_mem_take ha)).1
  omega
 have HTS : Hid (∀ A : List Nat, (∀ a ∈ A, a < 2048) → (tabB (layP x.now A)).length ≤ 2912) := fun A hA => tab_small hwf hn7 hA
 clear hq hdn hsz hNe hge hfl hF hn hpn hA0 hT h
 go_enter Tryz.func60, Tryz.ntmps60
 go_wp2_with fail
 refine (show Calls Tryz.prog 86 _ _ _ from HU.out).mono ?_
 rintro e w1 ⟨rfl, H1⟩
 clear HU
 go_wp2_with fail
 go_loopw [2, 6] (fun c t W => ∃ k : Nat, k ≤ N ∧ t = .int .i64 k ∧ c = .int .i64 (freeN x k : Nat) ∧ W = w1) (fun _ t _ => N - (intOf t).toNat)
 case atStart => exact ⟨0, Nat.zero_le _, rfl, rfl, rfl⟩
 case round =>
  obtain ⟨k, hk, rfl, rfl, rfl⟩ := hrel
  have hfk := freeN_le x k
  by_cases hlt : k < N
  ·have hc := H1.out.1.cell k hlt
   have HS : Hid (freeN x (k + 1) = freeN x k + (if usedF x k = true then 0 else 1)) := rfl
   obtain ⟨fk, hfke⟩ : ∃ q, q = freeN x k := ⟨_, rfl⟩
   rw [← hfke] at HS hfk
   rw [← hfke]
   have i0 : (0 : Int) ≤ (k : Int) := Int.natCast_nonneg _
   have i1 : (k : Int) < (N : Int) := by omega
   clear hfke
   cases hu : usedF x k
   ·rw [hu] at hc HS
    rw [if_neg (by decide)] at HS
    clear hu
    go_wp2
    go_roundw
    case rel => exact ⟨k + 1, by omega, by go_num, by rw [HS.out]; go_num, trivial⟩
    case measure => simp [intOf]; omega
   ·rw [hu] at hc HS
    rw [if_pos rfl] at HS
    clear hu
    go_wp2
    go_roundw
    case rel => exact ⟨k + 1, by omega, by go_num, by rw [HS.out]; rfl, trivial⟩
    case measure => simp [intOf]; omega
  ·obtain rfl : k = N := by omega
   rw [← HF.out]
   have HFr : Hid (Calls Tryz.prog 87 _ _ _) := rfresh_any (HH.out.still H1.out.2)
   rw [show (freshN x.now).length = putN x from rfl, ← HPN.out] at HFr
   clear hfk hlt
   go_wp2_with fail
   refine (show Calls Tryz.prog 87 _ _ _ from HFr.out).mono ?_
   rintro e w2 ⟨rfl, rfl⟩
   clear HFr
   go_wp2_with fail
   go_loopw [2, 3, 4, 8, 9, 10] (fun u2 u3 u4 t u9 u10 W => ∃ j : Nat, j ≤ T ∧ j ≤ F + 1 ∧ u2 = .int .i64 (F : Nat) ∧ t = .int .i64 j ∧ Hid (Only (fun _ => False) w2 W)) (fun _ _ _ t _ _ _ => F + 2 - (intOf t).toNat)
   case atStart => exact ⟨0, Nat.zero_le _, by omega, rfl, rfl, Only.refl _ _⟩
   case round =>
    obtain ⟨j, hjT, hjF, rfl, rfl, HO⟩ := hrel
    obtain ⟨wq, rfl⟩ : ∃ q, q = wr := ⟨_, rfl⟩
    by_cases hlt : n + j ≤ F
    ·have HFi : Hid (Calls Tryz.prog 88 #[.slice (some ⟨g, 0, none⟩) k k, .int .i64 ((n + j : Nat) : Int)] wq fun e w4 => FirstIs ((freeL x k).take (n + j)) (n + j) wq e w4) := by
      have hf3 : FBlk wq g k (usedF x) := H1.out.1.frame HO.out (fun e => e)
      have := rfirst_ok _ _ (n + j) wq (hf3.flags (by omega)) (by rw [flF_length]; omega)
      have e2 := fr_free_all x (n + j)
      rw [← HE.out.1] at e2
      rw [e2] at this
      exact this
     have i1 : (n : Int) + (j : Int) ≤ (F : Int) := by omega
     rw [show ((n + j : Nat) : Int) = (n : Int) + (j : Int) by omega] at HFi
     go_wp2_with fail
     refine (show Calls Tryz.prog 88 _ _ _ from HFi.out).mono ?_
     rintro e w4 he
     clear HFi
     have hll : ((freeL x k).take (n + j)).length = n + j := by rw [List.length_take, freeL_len]; have := HF.out; omega
     rcases he with ⟨hl, _, _⟩ | ⟨_, u, rfl, hu, ho4⟩
     ·omega
     ·obtain ⟨au, cu, hue, _⟩ := hu.form
      rw [hll] at hue
      subst hue
      obtain ⟨a5, c5, s5, hi5, _⟩ := hu.to n (by omega)
      rw [List.take_take, Nat.min_eq_left (by omega), ← HA0.out.1] at hi5
      have o4 : Only (fun _ => False) w2 w4 := HO.out.trans ho4 (fun _ _ e => e)
      have HTb : Hid (Calls Tryz.prog 90 _ _ _) := rtable_any ((HH.out.still H1.out.2).still o4) (.slice a5 n c5) A0 hi5 (by rw [HA0.out.1, List.length_take, freeL_len, ← HF.out, HPN.out]; show putN x ≤ _; have := HPN.out; omega) HA7.out
      obtain ⟨M, hM⟩ : ∃ M, M = (tabB (layP x.now A0)).length := ⟨_, rfl⟩
      have hM2 := HTS.out A0 HA7.out
      rw [← hM] at HTb hM2
      have HMT : Hid (tabN M = T) := by rw [hM]; exact HA0.out.2.symm
      have HU5 : Hid (FreshI w4 wq.heap.size (.slice au (n + j) cu) ((freeL x k).take (n + j)) ∧ Only (fun _ => False) w2 w4) := ⟨hu, o4⟩
      have i2 : (n : Int) ≤ (cu : Int) := by
       rcases hu.1.2 with ⟨hv, h0⟩ | ⟨g', cap', cur', hv, _, _, hcap, _⟩
       ·simp only [Value.slice.injEq] at hv; omega
       ·simp only [Value.slice.injEq] at hv; have := hv.2.2; rw [hll] at hcap; omega
      clear hM hi5 hu ho4 o4 hll
      go_wp2_with fail
      refine (show Calls Tryz.prog 90 _ _ _ from HTb.out).mono ?_
      rintro e w5 ⟨a6, c6, rfl, H5⟩
      have HTn : Hid (Calls Tryz.prog 89 _ _ _) := tables_any M w5 (by omega)
      rw [HMT.out] at HTn
      clear HTb
      go_wp2_with fail
      refine (show Calls Tryz.prog 89 _ _ _ from HTn.out).mono ?_
      rintro e w6 ⟨rfl, rfl⟩
      clear HTn
      by_cases hTj : T ≤ j
      ·obtain rfl : T = j := by omega
       have o6 : Only (fun _ => False) w2 w6 := HU5.out.2.trans H5.out.2 (fun _ _ e => e)
       have hu6 : FreshI w6 wq.heap.size (.slice au (n + T) cu) ((freeL x k).take (n + T)) := HU5.out.1.frame H5.out.2
       have hll : ((freeL x k).take (n + T)).length = n + T := by rw [List.length_take, freeL_len]; have := HF.out; omega
       obtain ⟨a7, c7, w7, hr7, hf7, ho7⟩ := copy_ints w6 (.slice au (n + T) cu) ((freeL x k).take (n + T)) hu6.ints (by rw [hll]; omega)
       rw [hll] at hr7 hf7
       have HR7 : Hid _ := hr7
       have HQF : Hid (RmIs x w (.returned (.tuple #[.int .i64 (F : Nat), .int .i64 ((n + T : Nat) : Int), .slice a7 (n + T) c7])) w7) := by
        have hfit : putN x ≤ freeN x x.size ∧ needA x ((freeL x x.size).take (putN x)) ≤ freeN x x.size := by
         unfold needA
         rw [← HE.out.1, ← HPN.out, ← HA0.out.1, ← HA0.out.2, ← HF.out]
         omega
        have hnd : needN x = n + T := by
         unfold needN plA
         rw [if_pos hfit]
         unfold needA
         rw [← HE.out.1, ← HPN.out, ← HA0.out.1, ← HA0.out.2]
        refine ⟨_, by rw [hnd, ← HE.out.1, ← HF.out], ((H1.out.2.trans o6 (fun _ _ e => e)).trans ho7 (fun _ _ e => e)), fun _ => ?_⟩
        rw [hnd, ← HE.out.1]
        refine ⟨⟨hf7.1.1, ?_⟩, hf7.2⟩
        rcases hf7.1.2 with e | ⟨g', cap, cur, hv, hb, rest⟩
        ·exact .inl e
        ·exact .inr ⟨g', cap, cur, hv, by have := (H1.out.2.trans o6 (fun _ _ e => e)).size; omega, rest⟩
       rw [show ((n + T : Nat) : Int) = (n : Int) + (T : Int) by omega] at HQF
       have hem := emptyI
       have i3 : (T : Int) ≤ (T : Int) := Int.le_refl _
       clear hr7 hf7 ho7 o6 hu6 hll hTj
       go_wp2_with (at_builtin; refine wpList_append_run rfl _ _ 76 rfl (.slice (some ⟨w6.heap.size, 0, none⟩) 0 0) (.slice au (n + T) cu) (.slice a7 (n + T) c7) rfl rfl HR7.out ?_)
       go_ret3
       exact HQF
      ·have hTj2 : ¬ (T : Int) ≤ (j : Int) := by omega
       have HO6 : Hid (Only (fun _ => False) w2 w6) := HU5.out.2.trans H5.out.2 (fun _ _ e => e)
       clear HU5 H5 HO
       go_wp2
       go_roundw
       case rel => exact ⟨j + 1, by omega, by omega, rfl, by go_num, HO6⟩
       case measure => simp [intOf]; omega
    ·have i1 : ¬ (n : Int) + (j : Int) ≤ (F : Int) := by omega
     have HNF : Hid (¬ (putN x ≤ freeN x x.size ∧ needA x ((freeL x x.size).take (putN x)) ≤ freeN x x.size)) := by
      unfold needA
      show ¬ _
      rw [← HE.out.1, ← HPN.out, ← HA0.out.1, ← HA0.out.2, ← HF.out]
      omega
     have hmk := make_ints n (by omega) wq
     obtain ⟨Z, hZ⟩ : ∃ Z, Z = (rpL 0 n 0).toArray := ⟨_, rfl⟩
     rw [← hZ] at hmk
     have HZ : Hid (RBlk (wq.alloc (.cells Z 3)) wq.heap.size ((k - 1 : Nat) : Int) n 0) := by
      show _ = _
      rw [hZ, RBlk.zero wq ((k - 1 : Nat) : Int) n]
      exact heap_alloc_new wq _
     clear hZ
     go_wp2_with fail
     clear hmk hjT hjF hlt
     go_loopw [12] (fun t W => ∃ i : Nat, i ≤ n ∧ t = .int .i64 i ∧ RBlk W wq.heap.size ((k - 1 : Nat) : Int) n i ∧ Only (fun _ => False) wq W) (fun t _ => n - (intOf t).toNat)
     case atStart => exact ⟨0, Nat.zero_le _, rfl, HZ.out, (Only.refl _ _).alloc _⟩
     case round =>
      obtain ⟨i, hi, rfl, hb, ho⟩ := hrel
      obtain ⟨wq2, rfl⟩ : ∃ q, q = wr := ⟨_, rfl⟩
      by_cases hlt2 : i < n
      ·have o2 : Only (fun _ => False) w wq2 := (H1.out.2.trans HO.out (fun _ _ e => e)).trans ho (fun _ _ e => e)
       have y0 := o2.cell HH.out.c0 (fun e => e)
       have HC : Hid (Calls Tryz.prog 71 _ _ _) := rcount_any q dn wq2 HQ.out.2.1 (o2.cell HQ.out.1 (fun e => e))
       rw [HQ.out.2.2, ← HE.out.1] at HC
       obtain ⟨u, hu⟩ : ∃ u, wq2.cell? ⟨wq.heap.size, i, none⟩ = some u := by
        refine ⟨.int .i64 0, ?_⟩
        rw [cell_of_row _ _ _ _ _ _ hb]
        simp only [List.getElem?_toArray, rpL]
        rw [List.getElem?_append_right (by simp)]
        simp only [List.length_replicate, Nat.sub_self]
        rw [List.getElem?_replicate, if_pos (by omega)]
       have hfz : wq2.frozen? ⟨wq.heap.size, i, none⟩ = false := frozen_of_row _ _ _ _ _ hb
       have HS : Hid (RBlk (wq2.setCell ⟨wq.heap.size, i, none⟩ (.int .i64 ((k - 1 : Nat) : Int))) wq.heap.size ((k - 1 : Nat) : Int) n (i + 1) ∧ Only (fun _ => False) wq (wq2.setCell ⟨wq.heap.size, i, none⟩ (.int .i64 ((k - 1 : Nat) : Int)))) := ⟨hb.set hlt2, ho.setCell _ _ (fun e => by simp at e)⟩
       rw [show ((k - 1 : Nat) : Int) = (k : Int) - 1 by omega] at HS
       have i0 : (0 : Int) ≤ (i : Int) := Int.natCast_nonneg _
       have i1' : (i : Int) < (n : Int) := by omega
       clear hb ho o2
       go_wp2_with fail
       refine (show Calls Tryz.prog 71 _ _ _ from HC.out).mono ?_
       rintro e w9 ⟨rfl, rfl⟩
       clear HC
       go_wp2
       go_roundw
       case rel => rw [show ((k - 1 : Nat) : Int) = (k : Int) - 1 by omega]; exact ⟨i + 1, by omega, by go_num, HS.out.1, HS.out.2⟩
       case measure => simp [intOf]; omega
      ·obtain rfl : i = n := by omega
       have hfull : IntsAt wq2 (.slice (some ⟨wq.heap.size, 0, none⟩) i i) (List.replicate i (k - 1)) := hb.ints
       have o2 : Only (fun _ => False) w wq2 := (H1.out.2.trans HO.out (fun _ _ e => e)).trans ho (fun _ _ e => e)
       have hpl : plA x = List.replicate i (k - 1) := by
        unfold plA
        rw [if_neg HNF.out, ← HPN.out, ← HE.out.1]
       have hR7 : ∀ a ∈ List.replicate i (k - 1), a < 2048 := fun a ha => by have := (List.mem_replicate.1 ha).2; omega
       have HTb : Hid (Calls Tryz.prog 90 _ _ _) := rtable_any (HH.out.still o2) _ _ hfull (by rw [List.length_replicate]; exact Nat.le_of_eq HPN.out.symm) hR7
       obtain ⟨M, hM⟩ : ∃ M, M = (tabB (layP x.now (List.replicate i (k - 1)))).length := ⟨_, rfl⟩
       have hM2 := HTS.out _ hR7
       rw [← hM] at HTb hM2
       have HND : Hid (needN x = i + tabN M) := by
        show needN x = _
        unfold needN needA
        rw [hpl, ← hM, ← HPN.out]
       have HO2 : Hid (Only (fun _ => False) w wq2) := o2
       clear hb ho hfull o2 hpl hR7 hM hlt2 hi
       go_wp2_with fail
       refine (show Calls Tryz.prog 90 _ _ _ from HTb.out).mono ?_
       rintro e w5 ⟨a6, c6, rfl, H5⟩
       have HTn : Hid (Calls Tryz.prog 89 _ _ _) := tables_any M w5 (by omega)
       have hTm : tabN M ≤ 27 := by unfold tabN; omega
       clear HTb
       go_wp2_with fail
       refine (show Calls Tryz.prog 89 _ _ _ from HTn.out).mono ?_
       rintro e w6 ⟨rfl, rfl⟩
       clear HTn
       have HQF : Hid (RmIs x w (.returned (.tuple #[.int .i64 (F : Nat), .int .i64 ((i : Int) + (tabN M : Nat)), .slice none 0 0])) w6) := by
        refine ⟨.slice none 0 0, by rw [HND.out, ← HE.out.1, ← HF.out, Int.natCast_add], HO2.out.trans H5.out.2 (fun _ _ e => e), fun hh => absurd ((plA_fits HH.out.wf).1 hh) HNF.out⟩
       go_wp2
       go_ret3
       exact HQF
end
theorem one_byte (w : World) (q : Nat) (hq : q < 256) : BytesAt (w.alloc (.cells #[.int .u8 (q : Int)] 5)) (.slice (some ⟨w.heap.size, 0, none⟩) 1 1) [q] := by
 refine ⟨.inr ⟨_, _, rfl, by simp, fun j hj => ?_⟩, by simp, by simpa using hq⟩
 have : j = 0 := by simp at hj; omega
 subst this
 rw [Addr.add_mid, cell_of_row _ _ _ _ _ _ (heap_alloc_new w _)]
 rfl
theorem app_one {w : World} {B : Nat} {v : Value} {zs : List Nat} (h : Fresh w B v zs) (hB : B ≤ w.heap.size) (q : Nat) (hq : q < 256) (hl : zs.length + 1 ≤ 140737488355328) :
  ∃ a cap w', (∀ ty, (Builtin.append_ #[37, 37] ty #[v, .slice (some ⟨w.heap.size, 0, none⟩) 1 1]).run Tryz.prog (w.alloc (.cells #[.int .u8 (q : Int)] 5)) = .ok (.slice a (zs.length + 1) cap) w') ∧ Fresh w' B (.slice a (zs.length + 1) cap) (zs ++ [q]) ∧ Only (fun i => B ≤ i) w w' := by
 have o1 : Only (fun _ => False) w (w.alloc (.cells #[.int .u8 (q : Int)] 5)) := (Only.refl _ w).alloc _
 obtain ⟨a, cap, w', hr, hf, ho⟩ := app_fresh (h.frame o1) (one_byte w q hq) (by have := o1.size; omega) hl
 exact ⟨a, cap, w', hr, hf, (o1.mono (fun _ _ e => e.elim)).trans ho (fun _ _ e => e)⟩
theorem lay4_get (n k : Nat) (h : k < 4) : (lay4 n).getD k 0 = n / 2 ^ (8 * k) % 256 := by
 match k, h with
 | 0, _ => simp [lay4]
 | 1, _ => simp [lay4]
 | 2, _ => simp [lay4]
 | 3, _ => simp [lay4]
theorem take_one (l : List Nat) (k : Nat) (h : k < l.length) : l.take (k + 1) = l.take k ++ [l.getD k 0] := by
 rw [List.take_succ_eq_append_getElem h]
 simp [List.getD, h]
theorem lay_any (n : Nat) (w : World) (hn : n < 18446744073709551616) :
  Calls Tryz.prog 92 #[.int .u64 n, .int .i64 4] w fun e w' => ∃ u, e = .returned u ∧ Fresh w' w.heap.size u (lay4 n) ∧ Only (fun _ => False) w w' := by
 go_enter Tryz.func92, Tryz.ntmps92
 go_wp2
 go_loopw [5, 6] (fun b t wr => ∃ k : Nat, k ≤ 4 ∧ t = .int .i64 k ∧ Fresh wr w.heap.size b ((lay4 n).take k) ∧ Only (fun _ => False) w wr) (fun _ t _ => 4 - (intOf t).toNat)
 case atStart => exact ⟨0, by omega, rfl, by simpa using Fresh.nil _ _, Only.refl _ _⟩
 case round =>
  obtain ⟨k, hk, rfl, hf, ho⟩ := hrel
  obtain ⟨w2, rfl⟩ : ∃ w2, w2 = wr := ⟨_, rfl⟩
  have HO : Hid (Only (fun _ => False) w w2) := ho
  have HF : Hid (Fresh w2 w.heap.size u5 ((lay4 n).take k)) := hf
  by_cases hlt : k < 4
  ·have k1 : (k : Int) < 4 := by omega
   have k0 : (0 : Int) ≤ (k : Int) := by omega
   have hl : ((lay4 n).take k).length = k := by rw [List.length_take, lay4_length]; omega
   have hm8 : IntKind.i64.wrap (8 * (k : Int)) = 8 * (k : Int) := by rw [IntKind.wrap_i64]; omega
   obtain ⟨s, hs⟩ : ∃ s, s = 8 * k := ⟨_, rfl⟩
   have hs8 : 8 * (k : Int) = (s : Int) := by omega
   rw [hs8] at hm8
   have s1 : (s : Int) < 64 := by omega
   have s0 : (0 : Int) ≤ (s : Int) := by omega
   have HG : Hid _ := lay4_get n k hlt
   have HT : Hid _ := take_one (lay4 n) k (by rw [lay4_length]; exact hlt)
   rw [← hs] at HG
   obtain ⟨y, hy⟩ : ∃ y, y = n / 2 ^ s := ⟨_, rfl⟩
   have hyi : (n : Int) / 2 ^ s = (y : Nat) := by rw [hy]; simp
   obtain ⟨q, hq⟩ : ∃ q, q = y % 256 := ⟨_, rfl⟩
   have hqi : (y : Int) % 256 = (q : Nat) := by omega
   have hq2 : q < 256 := by omega
   rw [HG.out, ← hy, ← hq] at HT
   obtain ⟨a, cap, w3, hr, hf3, ho3⟩ := app_one hf ho.size q hq2 (by rw [hl]; omega)
   rw [hl] at hr hf3
   have HR : Hid _ := hr
   have HF3 : Hid (Fresh w3 w.heap.size (.slice a (k + 1) cap) ((lay4 n).take (k + 1))) := by rw [HT.out]; exact hf3
   have HO3 : Hid (Only (fun _ => False) w w3) := ho.trans ho3 (fun i hi e => by omega)
   clear hf ho hf3 ho3 hr hy hq hs HG HT hl
   go_wp2_with (at_builtin; go_must (refine wpList_append_run rfl _ _ 37 rfl _ _ (.slice a (k + 1) cap) rfl rfl HR.out ?_))
   go_roundw
   case rel => exact ⟨k + 1, by omega, by go_num, HF3.out, HO3.out⟩
   case measure => simp [intOf]; omega
  ·obtain rfl : k = 4 := by omega
   clear hf ho
   go_wp2
   go_ret
   exact ⟨_, rfl, by simpa [lay4] using HF.out, HO.out⟩
def laidN : List Nat → Nat
 | [] => 0
 | z :: r => laidN r * 256 + z
theorem laid_drop (zs : List Nat) (k : Nat) (h : k < zs.length) : laidN (zs.drop k) = laidN (zs.drop (k + 1)) * 256 + zs.getD k 0 := by
 rw [List.drop_eq_getElem_cons h]
 simp [laidN, List.getD, h]
theorem laid_lt : ∀ (zs : List Nat), (∀ z ∈ zs, z < 256) → laidN zs < 256 ^ zs.length
 | [], _ => by simp [laidN]
 | z :: r, h => by
   have h1 := laid_lt r (fun y hy => h y (List.mem_cons_of_mem _ hy))
   have h2 := h z List.mem_cons_self
   simp only [laidN, List.length_cons, Nat.pow_succ]
   have : (laidN r + 1) * 256 ≤ 256 ^ r.length * 256 := Nat.mul_le_mul_right _ h1
   omega
theorem laid4 (zs : List Nat) (p : Nat) (hp : p + 4 ≤ zs.length) : laidN ((zs.drop p).take 4) = val4 zs p := by
 have e : (zs.drop p).take 4 = [zs.getD p 0, zs.getD (p + 1) 0, zs.getD (p + 2) 0, zs.getD (p + 3) 0] := by
  apply List.ext_getElem
  ·simp; omega
  ·intro i h4 h5
   simp at h5
   have hi : p + i < zs.length := by omega
   simp only [List.getElem_take, List.getElem_drop]
   match i, h5 with
   | 0, _ => simp [List.getD, show p < zs.length by omega]
   | 1, _ => simp [List.getD, show p + 1 < zs.length by omega]
   | 2, _ => simp [List.getD, show p + 2 < zs.length by omega]
   | 3, _ => simp [List.getD, show p + 3 < zs.length by omega]
 rw [e]
 simp only [laidN, val4]
 omega
theorem laid_any (v : Value) (zs : List Nat) (w : World) (h : BytesAt w v zs) (hl : zs.length = 4) :
  Calls Tryz.prog 98 #[v] w fun e w' => e = .returned (.int .u64 (laidN zs : Nat)) ∧ w' = w := by
 obtain ⟨a, c, rfl, hcap, hc⟩ := h.form
 have HL : Hid (∀ z ∈ zs, z < 256) := h.2.2
 have HC : Hid _ := hc
 have HM : Hid (zs.length = 4) := hl
 rw [hl]
 clear h hc hl hcap
 go_enter Tryz.func98, Tryz.ntmps98
 go_wp2
 go_loopw [3, 4] (fun r t wr => ∃ k : Nat, k ≤ 4 ∧ t = .int .i64 ((k : Int) - 1) ∧ r = .int .u64 (laidN (zs.drop k) : Nat) ∧ w = wr) (fun _ t _ => (intOf t + 1).toNat)
 case atStart => exact ⟨4, by omega, rfl, by rw [List.drop_eq_nil_of_le (by rw [HM.out]; exact Nat.le_refl _)]; rfl, rfl⟩
 case round =>
  obtain ⟨k, hk, rfl, rfl, rfl⟩ := hrel
  by_cases hlt : 0 < k
  ·obtain ⟨j, rfl⟩ : ∃ j, k = j + 1 := ⟨k - 1, by omega⟩
   have e0 : ((j + 1 : Nat) : Int) - 1 = (j : Int) := by omega
   rw [e0]
   have k0 : (0 : Int) ≤ (j : Int) := by omega
   have k1 : (j : Int) < 4 := by omega
   obtain ⟨g, o, rfl, hcell⟩ := HC.out j (by have := HM.out; omega)
   have HD : Hid _ := laid_drop zs j (by have := HM.out; omega)
   have hz := getD_lt HL.out j
   have hx := laid_lt (zs.drop (j + 1)) (fun z h => HL.out z (List.mem_of_mem_drop h))
   have hp : 256 ^ (zs.drop (j + 1)).length ≤ 256 ^ 3 := Nat.pow_le_pow_right (by omega) (by rw [List.length_drop, HM.out]; omega)
   obtain ⟨x, hxx⟩ : ∃ x, x = laidN (zs.drop (j + 1)) := ⟨_, rfl⟩
   obtain ⟨z, hzz⟩ : ∃ z, z = zs.getD j 0 := ⟨_, rfl⟩
   rw [← hxx] at hx HD
   rw [← hzz] at hz hcell HD
   rw [← hxx]
   have hx2 : x < 16777216 := by omega
   have m1 : IntKind.u64.wrap ((x : Int) * 256) = ((x * 256 : Nat) : Int) := by simp [IntKind.wrap, IntKind.bits, IntKind.signed]; omega
   have m2 : IntKind.u64.wrap (((x * 256 : Nat) : Int) + (z : Int)) = ((x * 256 + z : Nat) : Int) := by simp [IntKind.wrap, IntKind.bits, IntKind.signed]; omega
   obtain ⟨y, hy⟩ : ∃ y, y = x * 256 := ⟨_, rfl⟩
   rw [← hy] at m1 m2 HD
   have HY : Hid (y = x * 256) := hy
   clear hxx hzz hx hp hy
   go_wp2
   go_roundw
   case rel => exact ⟨j, by omega, by go_num, by rw [HD.out]; simp, trivial⟩
   case measure => simp [intOf]
  ·obtain rfl : k = 0 := by omega
   go_wp2
   go_ret
   exact ⟨rfl, rfl⟩
theorem acc_cons (z : Nat) (r : List Nat) : ∀ k, acc4 (z :: r) 0 (k + 1) = z + 256 * acc4 r 0 k
 | 0 => by simp [acc4]
 | k + 1 => by
   have ih := acc_cons z r k
   rw [show acc4 (z :: r) 0 (k + 1 + 1) = acc4 (z :: r) 0 (k + 1) + (z :: r).getD (0 + (k + 1)) 0 * 2 ^ (8 * (k + 1)) from rfl, ih, show acc4 r 0 (k + 1) = acc4 r 0 k + r.getD (0 + k) 0 * 2 ^ (8 * k) from rfl]
   rw [show 8 * (k + 1) = 8 * k + 8 by omega, Nat.pow_add]
   have e : (z :: r).getD (0 + (k + 1)) 0 = r.getD (0 + k) 0 := by simp [List.getD]
   rw [e]
   generalize r.getD (0 + k) 0 = y
   generalize 2 ^ (8 * k) = p
   generalize acc4 r 0 k = q
   rw [Nat.mul_add, Nat.mul_left_comm 256 y p, ← Nat.mul_assoc y p, Nat.mul_comm (y * p) (2 ^ 8)]
   rw [show (2 ^ 8 : Nat) = 256 from rfl, Nat.mul_left_comm y 256 p]
   omega
theorem laid_nof : ∀ (zs : List Nat), laidN zs = nof zs
 | [] => rfl
 | z :: r => by
   have ih := laid_nof r
   unfold nof at *
   rw [List.length_cons, acc_cons, ← ih]
   simp only [laidN]
   omega
theorem layk_any (n K : Nat) (hK : K ≤ 8) (w : World) (hn : n < 18446744073709551616) :
  Calls Tryz.prog 92 #[.int .u64 n, .int .i64 (K : Nat)] w fun e w' => ∃ a c, e = .returned (.slice a K c) ∧ Hid (Fresh w' w.heap.size (.slice a K c) (layB n K) ∧ Only (fun _ => False) w w') := by
 go_enter Tryz.func92, Tryz.ntmps92
 go_wp2_with fail
 go_loopw [5, 6] (fun b t wr => ∃ k : Nat, k ≤ K ∧ t = .int .i64 k ∧ Hid (∃ (a : Option Addr) (c : Nat), b = .slice a k c ∧ Fresh wr w.heap.size (.slice a k c) (layB n k) ∧ Only (fun _ => False) w wr)) (fun _ t _ => K - (intOf t).toNat)
 case atStart => exact ⟨0, by omega, rfl, none, 0, rfl, by simpa [layB] using Fresh.nil _ _, Only.refl _ _⟩
 case round =>
  obtain ⟨k, hk, rfl, HI⟩ := hrel
  obtain ⟨a2, c2, rfl, hf, ho⟩ := HI.out
  clear HI
  obtain ⟨w2, rfl⟩ : ∃ w2, w2 = wr := ⟨_, rfl⟩
  by_cases hlt : k < K
  ·have k1 : (k : Int) < (K : Int) := by omega
   have k0 : (0 : Int) ≤ (k : Int) := by omega
   have hl : (layB n k).length = k := layB_length n k
   have hm8 : IntKind.i64.wrap (8 * (k : Int)) = 8 * (k : Int) := by rw [IntKind.wrap_i64]; omega
   obtain ⟨s, hs⟩ : ∃ s, s = 8 * k := ⟨_, rfl⟩
   have hs8 : 8 * (k : Int) = (s : Int) := by omega
   rw [hs8] at hm8
   have s1 : (s : Int) < 64 := by omega
   have s0 : (0 : Int) ≤ (s : Int) := by omega
   have HT : Hid _ := layB_succ n k
   rw [← hs] at HT
   obtain ⟨y, hy⟩ : ∃ y, y = n / 2 ^ s := ⟨_, rfl⟩
   have hyi : (n : Int) / 2 ^ s = (y : Nat) := by rw [hy]; simp
   obtain ⟨q, hq⟩ : ∃ q, q = y % 256 := ⟨_, rfl⟩
   have hqi : (y : Int) % 256 = (q : Nat) := by omega
   have hq2 : q < 256 := by omega
   rw [← hy, ← hq] at HT
   obtain ⟨a, cap, w3, hr, hf3, ho3⟩ := app_one hf ho.size q hq2 (by rw [hl]; omega)
   rw [hl] at hr hf3
   have HR : Hid _ := hr
   have HF3 : Hid (Fresh w3 w.heap.size (.slice a (k + 1) cap) (layB n (k + 1)) ∧ Only (fun _ => False) w w3) := ⟨by rw [HT.out]; exact hf3, ho.trans ho3 (fun i hi e => by omega)⟩
   clear hf ho hf3 ho3 hr hy hq hs HT hl
   go_wp2_with (at_builtin; refine wpList_append_run rfl _ _ 37 rfl _ _ (.slice a (k + 1) cap) rfl rfl HR.out ?_)
   go_roundw
   case rel => exact ⟨k + 1, by omega, by go_num, ⟨a, cap, rfl, HF3.out.1, HF3.out.2⟩⟩
   case measure => simp [intOf]; omega
  ·obtain rfl : k = K := by omega
   have HF : Hid (Fresh w2 w.heap.size (.slice a2 k c2) (layB n k) ∧ Only (fun _ => False) w w2) := ⟨hf, ho⟩
   clear hf ho
   go_wp2
   go_ret
   exact ⟨_, _, rfl, HF⟩
theorem laidk_any (v : Value) (zs : List Nat) (w : World) (h : BytesAt w v zs) (hl : zs.length ≤ 8) :
  Calls Tryz.prog 98 #[v] w fun e w' => e = .returned (.int .u64 (nof zs : Nat)) ∧ w' = w := by
 rw [← laid_nof]
 obtain ⟨a, c, rfl, hcap, hc⟩ := h.form
 have HL : Hid (∀ z ∈ zs, z < 256) := h.2.2
 have HC : Hid _ := hc
 obtain ⟨n, hn⟩ : ∃ n, n = zs.length := ⟨_, rfl⟩
 have HM : Hid (zs.length = n) := hn.symm
 rw [← hn]
 rw [← hn] at hl
 clear h hc hcap hn
 go_enter Tryz.func98, Tryz.ntmps98
 go_wp2
 go_loopw [3, 4] (fun r t wr => ∃ k : Nat, k ≤ n ∧ t = .int .i64 ((k : Int) - 1) ∧ r = .int .u64 (laidN (zs.drop k) : Nat) ∧ w = wr) (fun _ t _ => (intOf t + 1).toNat)
 case atStart => exact ⟨n, by omega, rfl, by rw [List.drop_eq_nil_of_le (by rw [HM.out]; exact Nat.le_refl _)]; rfl, rfl⟩
 case round =>
  obtain ⟨k, hk, rfl, rfl, rfl⟩ := hrel
  by_cases hlt : 0 < k
  ·obtain ⟨j, rfl⟩ : ∃ j, k = j + 1 := ⟨k - 1, by omega⟩
   have e0 : ((j + 1 : Nat) : Int) - 1 = (j : Int) := by omega
   rw [e0]
   have k0 : (0 : Int) ≤ (j : Int) := by omega
   have k1 : (j : Int) < (n : Int) := by omega
   obtain ⟨g, o, rfl, hcell⟩ := HC.out j (by have := HM.out; omega)
   have HD : Hid _ := laid_drop zs j (by have := HM.out; omega)
   have hz := getD_lt HL.out j
   have hx := laid_lt (zs.drop (j + 1)) (fun z h => HL.out z (List.mem_of_mem_drop h))
   have hp : 256 ^ (zs.drop (j + 1)).length ≤ 256 ^ 7 := Nat.pow_le_pow_right (by omega) (by rw [List.length_drop, HM.out]; omega)
   obtain ⟨x, hxx⟩ : ∃ x, x = laidN (zs.drop (j + 1)) := ⟨_, rfl⟩
   obtain ⟨z, hzz⟩ : ∃ z, z = zs.getD j 0 := ⟨_, rfl⟩
   rw [← hxx] at hx HD
   rw [← hzz] at hz hcell HD
   rw [← hxx]
   have hx2 : x < 72057594037927936 := by
    have : (256 : Nat) ^ 7 = 72057594037927936 := by decide
    omega
   have m1 : IntKind.u64.wrap ((x : Int) * 256) = ((x * 256 : Nat) : Int) := by rw [IntKind.wrap_u64]; omega
   have m2 : IntKind.u64.wrap (((x * 256 : Nat) : Int) + (z : Int)) = ((x * 256 + z : Nat) : Int) := by rw [IntKind.wrap_u64]; omega
   obtain ⟨y, hy⟩ : ∃ y, y = x * 256 := ⟨_, rfl⟩
   rw [← hy] at m1 m2 HD
   have HY : Hid (y = x * 256) := hy
   clear hxx hzz hx hp hy
   go_wp2
   go_roundw
   case rel => exact ⟨j, by omega, by go_num, by rw [HD.out]; simp, trivial⟩
   case measure => simp [intOf]
  ·obtain rfl : k = 0 := by omega
   go_wp2
   go_ret
   exact ⟨rfl, rfl⟩
theorem layB_zero : ∀ k, layB 0 k = List.replicate k 0 := fun k => by
 unfold layB
 apply List.ext_getElem
 ·simp
 ·intro i h1 h2; simp
theorem rroot2_any (r : Nat) (ep : Nat) (tv : Value) (T : List Nat) (w : World) (h2 : w.cell? ⟨r, 2, none⟩ = some (.int .u64 (ep : Nat))) (h3 : w.cell? ⟨r, 3, none⟩ = some tv) (ht : IntsAt w tv T) (hep : ep < 18446744073709551616) (hT : T.length ≤ 2048) (hT2 : ∀ t ∈ T, t < 2048) :
  Calls Tryz.prog 73 #[.pointer (some ⟨r, 0, none⟩)] w fun e w' => ∃ a c, e = .returned (.slice a 32 c) ∧ Hid (Fresh w' w.heap.size (.slice a 32 c) (rootB ep (T.getD 0 0) T.length) ∧ Only (fun _ => False) w w') := by
 obtain ⟨at_, ct, hvf, hvc⟩ := ht.shape
 obtain ⟨n, hn⟩ : ∃ n, n = T.length := ⟨_, rfl⟩
 rw [← hn] at hvf hT
 obtain ⟨f, hf⟩ : ∃ f, f = T.getD 0 0 := ⟨_, rfl⟩
 have hf2 : f < 2048 := by
  rw [hf]
  simp only [List.getD]
  cases h : T[0]? with
  | none => simp
  | some t => exact hT2 t (List.mem_of_getElem? h)
 have HC : Hid (0 < n → ∃ g o, at_ = some ⟨g, o, none⟩ ∧ w.cell? ⟨g, o, none⟩ = some (.int .i64 (f : Nat))) := fun h0 => by
  obtain ⟨g, o, e, hc⟩ := hvc 0 (by omega)
  exact ⟨g, o, e, by rw [hf]; simpa using hc⟩
 have H0 : Hid (n = 0 → f = 0) := fun h0 => by
  rw [hf, List.eq_nil_of_length_eq_zero (by omega : T.length = 0)]; rfl
 subst hvf
 rw [← hf, ← hn]
 clear ht hvc hn hf hT2
 have L8 : ∀ (w : World), Calls Tryz.prog 92 #[.int .u64 (ep : Nat), .int .i64 8] w fun e w' => ∃ a c, e = .returned (.slice a 8 c) ∧ Hid (Fresh w' w.heap.size (.slice a 8 c) (layB ep 8) ∧ Only (fun _ => False) w w') := fun w => layk_any ep 8 (by omega) w hep
 have L4 : ∀ (w : World), Calls Tryz.prog 92 #[.int .u64 (f : Nat), .int .i64 4] w fun e w' => ∃ a c, e = .returned (.slice a 4 c) ∧ Hid (Fresh w' w.heap.size (.slice a 4 c) (layB f 4) ∧ Only (fun _ => False) w w') := fun w => layk_any f 4 (by omega) w (by omega)
 have N4 : ∀ (w : World), Calls Tryz.prog 92 #[.int .u64 (n : Nat), .int .i64 4] w fun e w' => ∃ a c, e = .returned (.slice a 4 c) ∧ Hid (Fresh w' w.heap.size (.slice a 4 c) (layB n 4) ∧ Only (fun _ => False) w w') := fun w => layk_any n 4 (by omega) w (by omega)
 have Z8 : ∀ (w : World), Calls Tryz.prog 92 #[.int .u64 0, .int .i64 8] w fun e w' => ∃ a c, e = .returned (.slice a 8 c) ∧ Hid (Fresh w' w.heap.size (.slice a 8 c) (List.replicate 8 0) ∧ Only (fun _ => False) w w') := fun w => by have := layk_any 0 8 (by omega) w (by omega); rw [layB_zero] at this; exact this
 have HL8 : Hid _ := L8
 have HL4 : Hid _ := L4
 have HN4 : Hid _ := N4
 have HZ8 : Hid _ := Z8
 have u1 : IntKind.u64.wrap (f : Int) = (f : Int) := by rw [IntKind.wrap_u64]; omega
 have u2 : IntKind.u64.wrap (n : Int) = (n : Int) := by rw [IntKind.wrap_u64]; omega
 clear L8 L4 N4 Z8
 have HREST : Hid (∀ (w1 : World), Only (fun _ => False) w w1 → w1.cell? ⟨r, 2, none⟩ = some (.int .u64 (ep : Nat)) ∧ w1.cell? ⟨r, 3, none⟩ = some (.slice at_ n ct)) := fun w1 ho => ⟨ho.cell h2 (fun e => e), ho.cell h3 (fun e => e)⟩
 have APP : Hid (∀ (w2 : World) (a1 : Option Addr) (n1 c1 : Nat) (zs : List Nat) (a2 : Option Addr) (n2 c2 : Nat) (ys : List Nat), Fresh w2 w.heap.size (.slice a1 n1 c1) zs → Fresh w2 w.heap.size (.slice a2 n2 c2) ys → n1 = zs.length → n2 = ys.length → zs.length + ys.length ≤ 100 → w.heap.size ≤ w2.heap.size → ∃ a3 c3 w3, (∀ ty, (Builtin.append_ #[37, 37] ty #[.slice a1 n1 c1, .slice a2 n2 c2]).run Tryz.prog w2 = .ok (.slice a3 (n1 + n2) c3) w3) ∧ Fresh w3 w.heap.size (.slice a3 (n1 + n2) c3) (zs ++ ys) ∧ Only (fun i => w.heap.size ≤ i) w2 w3) := fun w2 a1 n1 c1 zs a2 n2 c2 ys hf1 hf2 e1 e2 hl hs => by
  subst e1 e2
  exact app_fresh hf1 hf2.bytes hs (by omega)
 have LES : Hid (∀ (w2 : World) (B : Nat) (v : Value) (zs : List Nat), Fresh w2 B v zs → w.heap.size ≤ B → Fresh w2 w.heap.size v zs) := fun w2 B v zs hf hs => by
  refine ⟨⟨hf.1.1, ?_⟩, hf.2⟩
  rcases hf.1.2 with e | ⟨g, cap, cur, hv, hb, rest⟩
  ·exact .inl e
  ·exact .inr ⟨g, cap, cur, hv, by omega, rest⟩
 by_cases h0 : 0 < n
 ·obtain ⟨g, o, hga, hcell⟩ := HC.out h0
  subst hga
  have i0 : (0 : Int) < (n : Int) := by omega
  clear HC H0
  go_enter Tryz.func73, Tryz.ntmps73
  go_wp2_with fail
  refine (show Calls Tryz.prog 92 _ _ _ from HL8.out w).mono ?_
  rintro e w1 ⟨a1, c1, rfl, H1⟩
  go_wp2_with fail
  refine (show Calls Tryz.prog 92 _ _ _ from HL4.out w1).mono ?_
  rintro e w2 ⟨a2, c2, rfl, H2⟩
  have o2 : Only (fun _ => False) w w2 := H1.out.2.trans H2.out.2 (fun _ _ e => e)
  obtain ⟨a3, c3, w3, hr3, hf3, ho3⟩ := APP.out w2 a1 8 c1 _ a2 4 c2 _ (H1.out.1.frame H2.out.2) (LES.out w2 _ _ _ H2.out.1 H1.out.2.size) (layB_length ..).symm (layB_length ..).symm (by simp [layB_length]) o2.size
  have O3 : Hid (Only (fun _ => False) w w3) := o2.trans ho3 (fun i hi e => by omega)
  have HF3 : Hid (Fresh w3 w.heap.size (.slice a3 (8 + 4) c3) (layB ep 8 ++ layB f 4)) := hf3
  have HR3 : Hid _ := hr3
  obtain ⟨y2, y3⟩ := HREST.out w3 O3.out
  clear hr3 hf3 ho3 o2 H1 H2 HL4
  go_wp2_with (at_builtin; refine wpList_append_run rfl _ _ 37 rfl (.slice a1 8 c1) (.slice a2 4 c2) (.slice a3 (8 + 4) c3) rfl rfl HR3.out ?_)
  refine (show Calls Tryz.prog 92 _ _ _ from HN4.out w3).mono ?_
  rintro e w4 ⟨a4, c4, rfl, H4⟩
  have o4 : Only (fun _ => False) w w4 := O3.out.trans H4.out.2 (fun _ _ e => e)
  obtain ⟨a5, c5, w5, hr5, hf5, ho5⟩ := APP.out w4 a3 (8 + 4) c3 _ a4 4 c4 _ (HF3.out.frame H4.out.2) (LES.out w4 _ _ _ H4.out.1 O3.out.size) (by simp [layB_length]) (layB_length ..).symm (by simp [layB_length]) o4.size
  have O5 : Hid (Only (fun _ => False) w w5) := o4.trans ho5 (fun i hi e => by omega)
  have HF5 : Hid (Fresh w5 w.heap.size (.slice a5 (8 + 4 + 4) c5) (layB ep 8 ++ layB f 4 ++ layB n 4)) := hf5
  have HR5 : Hid _ := hr5
  clear hr5 hf5 ho5 o4 H4 HN4 HR3 HF3 O3 y2 y3
  go_wp2_with (at_builtin; refine wpList_append_run rfl _ _ 37 rfl (.slice a3 (8 + 4) c3) (.slice a4 4 c4) (.slice a5 (8 + 4 + 4) c5) rfl rfl HR5.out ?_)
  refine (show Calls Tryz.prog 92 _ _ _ from HZ8.out w5).mono ?_
  rintro e w6 ⟨a6, c6, rfl, H6⟩
  have o6 : Only (fun _ => False) w w6 := O5.out.trans H6.out.2 (fun _ _ e => e)
  obtain ⟨a7, c7, w7, hr7, hf7, ho7⟩ := APP.out w6 a5 (8 + 4 + 4) c5 _ a6 8 c6 _ (HF5.out.frame H6.out.2) (LES.out w6 _ _ _ H6.out.1 O5.out.size) (by simp [layB_length]) (by simp) (by simp [layB_length]) o6.size
  have O7 : Hid (Only (fun _ => False) w w7) := o6.trans ho7 (fun i hi e => by omega)
  have HF7 : Hid (Fresh w7 w.heap.size (.slice a7 (8 + 4 + 4 + 8) c7) (layB ep 8 ++ layB f 4 ++ layB n 4 ++ List.replicate 8 0)) := hf7
  have HR7 : Hid _ := hr7
  obtain ⟨y2, y3⟩ := HREST.out w7 O7.out
  clear hr7 hf7 ho7 o6 H6 HZ8 HR5 HF5 O5
  go_wp2_with (at_builtin; refine wpList_append_run rfl _ _ 37 rfl (.slice a5 (8 + 4 + 4) c5) (.slice a6 8 c6) (.slice a7 (8 + 4 + 4 + 8) c7) rfl rfl HR7.out ?_)
  refine (show Calls Tryz.prog 92 _ _ _ from HL8.out w7).mono ?_
  rintro e w8 ⟨a8, c8, rfl, H8⟩
  have o8 : Only (fun _ => False) w w8 := O7.out.trans H8.out.2 (fun _ _ e => e)
  obtain ⟨a9, c9, w9, hr9, hf9, ho9⟩ := APP.out w8 a7 (8 + 4 + 4 + 8) c7 _ a8 8 c8 _ (HF7.out.frame H8.out.2) (LES.out w8 _ _ _ H8.out.1 O7.out.size) (by simp [layB_length]) (layB_length ..).symm (by simp [layB_length]) o8.size
  have HF9 : Hid (Fresh w9 w.heap.size (.slice a9 32 c9) (rootB ep f n) ∧ Only (fun _ => False) w w9) := ⟨by unfold rootB; simpa [List.append_assoc] using hf9, o8.trans ho9 (fun i hi e => by omega)⟩
  have HR9 : Hid _ := hr9
  clear hr9 hf9 ho9 o8 H8 HR7 HF7 O7
  go_wp2_with (at_builtin; refine wpList_append_run rfl _ _ 37 rfl (.slice a7 (8 + 4 + 4 + 8) c7) (.slice a8 8 c8) (.slice a9 (8 + 4 + 4 + 8 + 8) c9) rfl rfl HR9.out ?_)
  go_ret
  exact ⟨_, _, rfl, HF9⟩
 ·obtain rfl : n = 0 := by omega
  obtain rfl : f = 0 := H0.out rfl
  have HL4' : Hid (∀ (w : World), Calls Tryz.prog 92 #[.int .u64 0, .int .i64 4] w fun e w' => ∃ a c, e = .returned (.slice a 4 c) ∧ Hid (Fresh w' w.heap.size (.slice a 4 c) (layB 0 4) ∧ Only (fun _ => False) w w')) := HL4.out
  have HN4' : Hid (∀ (w : World), Calls Tryz.prog 92 #[.int .u64 0, .int .i64 4] w fun e w' => ∃ a c, e = .returned (.slice a 4 c) ∧ Hid (Fresh w' w.heap.size (.slice a 4 c) (layB 0 4) ∧ Only (fun _ => False) w w')) := HN4.out
  clear HC H0 HL4 HN4 u1 u2 hT hf2 h0
  go_enter Tryz.func73, Tryz.ntmps73
  go_wp2_with fail
  refine (show Calls Tryz.prog 92 _ _ _ from HL8.out w).mono ?_
  rintro e w1 ⟨a1, c1, rfl, H1⟩
  go_wp2_with fail
  refine (show Calls Tryz.prog 92 _ _ _ from HL4'.out w1).mono ?_
  rintro e w2 ⟨a2, c2, rfl, H2⟩
  have o2 : Only (fun _ => False) w w2 := H1.out.2.trans H2.out.2 (fun _ _ e => e)
  obtain ⟨a3, c3, w3, hr3, hf3, ho3⟩ := APP.out w2 a1 8 c1 _ a2 4 c2 _ (H1.out.1.frame H2.out.2) (LES.out w2 _ _ _ H2.out.1 H1.out.2.size) (layB_length ..).symm (layB_length ..).symm (by simp [layB_length]) o2.size
  have O3 : Hid (Only (fun _ => False) w w3) := o2.trans ho3 (fun i hi e => by omega)
  have HF3 : Hid (Fresh w3 w.heap.size (.slice a3 (8 + 4) c3) (layB ep 8 ++ layB 0 4)) := hf3
  have HR3 : Hid _ := hr3
  obtain ⟨y2, y3⟩ := HREST.out w3 O3.out
  clear hr3 hf3 ho3 o2 H1 H2 HL4'
  go_wp2_with (at_builtin; refine wpList_append_run rfl _ _ 37 rfl (.slice a1 8 c1) (.slice a2 4 c2) (.slice a3 (8 + 4) c3) rfl rfl HR3.out ?_)
  refine (show Calls Tryz.prog 92 _ _ _ from HN4'.out w3).mono ?_
  rintro e w4 ⟨a4, c4, rfl, H4⟩
  have o4 : Only (fun _ => False) w w4 := O3.out.trans H4.out.2 (fun _ _ e => e)
  obtain ⟨a5, c5, w5, hr5, hf5, ho5⟩ := APP.out w4 a3 (8 + 4) c3 _ a4 4 c4 _ (HF3.out.frame H4.out.2) (LES.out w4 _ _ _ H4.out.1 O3.out.size) (by simp [layB_length]) (layB_length ..).symm (by simp [layB_length]) o4.size
  have O5 : Hid (Only (fun _ => False) w w5) := o4.trans ho5 (fun i hi e => by omega)
  have HF5 : Hid (Fresh w5 w.heap.size (.slice a5 (8 + 4 + 4) c5) (layB ep 8 ++ layB 0 4 ++ layB 0 4)) := hf5
  have HR5 : Hid _ := hr5
  clear hr5 hf5 ho5 o4 H4 HN4' HR3 HF3 O3 y2 y3
  go_wp2_with (at_builtin; refine wpList_append_run rfl _ _ 37 rfl (.slice a3 (8 + 4) c3) (.slice a4 4 c4) (.slice a5 (8 + 4 + 4) c5) rfl rfl HR5.out ?_)
  refine (show Calls Tryz.prog 92 _ _ _ from HZ8.out w5).mono ?_
  rintro e w6 ⟨a6, c6, rfl, H6⟩
  have o6 : Only (fun _ => False) w w6 := O5.out.trans H6.out.2 (fun _ _ e => e)
  obtain ⟨a7, c7, w7, hr7, hf7, ho7⟩ := APP.out w6 a5 (8 + 4 + 4) c5 _ a6 8 c6 _ (HF5.out.frame H6.out.2) (LES.out w6 _ _ _ H6.out.1 O5.out.size) (by simp [layB_length]) (by simp) (by simp [layB_length]) o6.size
  have O7 : Hid (Only (fun _ => False) w w7) := o6.trans ho7 (fun i hi e => by omega)
  have HF7 : Hid (Fresh w7 w.heap.size (.slice a7 (8 + 4 + 4 + 8) c7) (layB ep 8 ++ layB 0 4 ++ layB 0 4 ++ List.replicate 8 0)) := hf7
  have HR7 : Hid _ := hr7
  obtain ⟨y2, y3⟩ := HREST.out w7 O7.out
  clear hr7 hf7 ho7 o6 H6 HZ8 HR5 HF5 O5
  go_wp2_with (at_builtin; refine wpList_append_run rfl _ _ 37 rfl (.slice a5 (8 + 4 + 4) c5) (.slice a6 8 c6) (.slice a7 (8 + 4 + 4 + 8) c7) rfl rfl HR7.out ?_)
  refine (show Calls Tryz.prog 92 _ _ _ from HL8.out w7).mono ?_
  rintro e w8 ⟨a8, c8, rfl, H8⟩
  have o8 : Only (fun _ => False) w w8 := O7.out.trans H8.out.2 (fun _ _ e => e)
  obtain ⟨a9, c9, w9, hr9, hf9, ho9⟩ := APP.out w8 a7 (8 + 4 + 4 + 8) c7 _ a8 8 c8 _ (HF7.out.frame H8.out.2) (LES.out w8 _ _ _ H8.out.1 O7.out.size) (by simp [layB_length]) (layB_length ..).symm (by simp [layB_length]) o8.size
  have HF9 : Hid (Fresh w9 w.heap.size (.slice a9 32 c9) (rootB ep 0 0) ∧ Only (fun _ => False) w w9) := ⟨by unfold rootB; simpa [List.append_assoc] using hf9, o8.trans ho9 (fun i hi e => by omega)⟩
  have HR9 : Hid _ := hr9
  clear hr9 hf9 ho9 o8 H8 HR7 HF7 O7
  go_wp2_with (at_builtin; refine wpList_append_run rfl _ _ 37 rfl (.slice a7 (8 + 4 + 4 + 8) c7) (.slice a8 8 c8) (.slice a9 (8 + 4 + 4 + 8 + 8) c9) rfl rfl HR9.out ?_)
  go_ret
  exact ⟨_, _, rfl, HF9⟩
section
variable {w : World} {rk : Nat → Prop} {B r q : Nat} {tv kv nv : Value} {x : SS} {lk ln : List RPg}
theorem rRoom_any (h : RsAt w rk B r q tv kv nv x lk ln) (dn : Nat) (hq : w.cell? ⟨q, 0, none⟩ = some (.int .i64 dn)) (hdn : dn ≤ 8192) (hsz : dn / 4 = x.size) :
  Calls Tryz.prog 48 #[.pointer (some ⟨r, 0, none⟩)] w fun e w' => e = .returned (.tuple #[.int .i64 (freeN x x.size : Nat), .int .i64 (needN x : Nat)]) ∧ Only (fun _ => False) w w' := by
 have HR : Hid (Calls Tryz.prog 60 _ _ _) := rroom_any h dn hq hdn hsz
 have c6 := h.c6
 clear h hq
 go_enter Tryz.func48, Tryz.ntmps48
 go_wp2_with fail
 refine (show Calls Tryz.prog 60 _ _ _ from HR.out).mono ?_
 rintro e w1 H1
 obtain ⟨u, rfl, ho, _⟩ := H1.out
 have HO : Hid (Only (fun _ => False) w w1) := ho
 clear ho H1 HR
 go_wp2
 go_ret2
 exact ⟨rfl, HO.out⟩
theorem rRoom_dead (r : Nat) (w : World) (h : w.cell? ⟨r, 6, none⟩ = some (.bool true)) :
  Calls Tryz.prog 48 #[.pointer (some ⟨r, 0, none⟩)] w fun e w' => e = .returned (.tuple #[.int .i64 0, .int .i64 0]) ∧ w' = w := by
 go_enter Tryz.func48, Tryz.ntmps48
 go_wp2
 go_ret2
 exact ⟨rfl, rfl⟩
end
def tkOk (N : Nat) (f : Nat → Bool) (n : Nat) : Bool := decide (2 ≤ n ∧ n < N) && !f n
theorem take4_any (q dn g N n : Nat) (f : Nat → Bool) (w : World) (hq : w.cell? ⟨q, 0, none⟩ = some (.int .i64 dn)) (hdn : dn ≤ 8192) (hN : dn / 4 = N) (hf : FBlk w g N f) (hn : n < 18446744073709551616) :
  Calls Tryz.prog 99 #[.pointer (some ⟨q, 0, none⟩), .slice (some ⟨g, 0, none⟩) N N, .int .u64 (n : Nat)] w fun e w' => e = .returned (.bool (tkOk N f n)) ∧ Hid ((tkOk N f n = false → w' = w) ∧ (tkOk N f n = true → FBlk w' g N (fun j => f j || j == n) ∧ Only (fun b => b = g) w w')) := by
 have HC := rcount_any q dn w hdn hq
 rw [hN] at HC
 have hN9 : N ≤ 2048 := by omega
 have hu : IntKind.u64.wrap (N : Int) = (N : Int) := by rw [IntKind.wrap_u64]; omega
 by_cases h2 : n < 2
 ·have e : tkOk N f n = false := by unfold tkOk; rw [decide_eq_false (by omega)]; rfl
  rw [e]
  have i1 : (n : Int) < 2 := by omega
  clear hf HC hq
  go_enter Tryz.func99, Tryz.ntmps99
  go_wp2
  go_ret
  exact ⟨rfl, fun _ => rfl, (fun e => by cases e)⟩
 ·have i1 : ¬ (n : Int) < 2 := by omega
  have d1 : decide ((n : Int) < 2) = false := by simpa using i1
  by_cases h3 : n < N
  ·have i2 : ¬ (N : Int) ≤ (n : Int) := by omega
   have d2 : decide ((N : Int) ≤ (n : Int)) = false := by simpa using i2
   have e : tkOk N f n = !f n := by unfold tkOk; rw [decide_eq_true (by omega)]; rfl
   rw [e]
   have hc := hf.cell n h3
   have hz := hf.frozen n
   have hw : wrap64 (n : Int) = (n : Int) := by unfold wrap64; omega
   have hw2 : IntKind.i64.wrap (n : Int) = (n : Int) := by rw [IntKind.wrap_i64]; omega
   have j0 : (0 : Int) ≤ (n : Int) := by omega
   have j1 : (n : Int) < (N : Int) := by omega
   have HS : Hid (FBlk (w.setCell ⟨g, n, none⟩ (.bool true)) g N (fun j => f j || j == n) ∧ Only (fun b => b = g) w (w.setCell ⟨g, n, none⟩ (.bool true))) := ⟨hf.set n, (Only.refl _ _).setCell _ _ (fun _ => rfl)⟩
   clear hf e hq
   cases hfn : f n
   ·rw [hfn] at hc
    clear hfn
    go_enter Tryz.func99, Tryz.ntmps99
    go_wp2_with fail
    refine HC.mono ?_
    rintro e w1 ⟨rfl, rfl⟩
    clear HC
    go_wp2
    go_ret
    exact ⟨rfl, (fun e => by cases e), fun _ => HS.out⟩
   ·rw [hfn] at hc
    clear hfn
    go_enter Tryz.func99, Tryz.ntmps99
    go_wp2_with fail
    refine HC.mono ?_
    rintro e w1 ⟨rfl, rfl⟩
    clear HC
    go_wp2
    go_ret
    exact ⟨rfl, fun _ => rfl, (fun e => by cases e)⟩
  ·have i2 : (N : Int) ≤ (n : Int) := by omega
   have e : tkOk N f n = false := by unfold tkOk; rw [decide_eq_false (by omega)]; rfl
   rw [e]
   clear hf hq
   go_enter Tryz.func99, Tryz.ntmps99
   go_wp2_with fail
   refine HC.mono ?_
   rintro e w1 ⟨rfl, rfl⟩
   clear HC
   go_wp2
   go_ret
   exact ⟨rfl, fun _ => rfl, (fun e => by cases e)⟩
end Go.Proofs.YtlcglapcmdpkfaaGreat
