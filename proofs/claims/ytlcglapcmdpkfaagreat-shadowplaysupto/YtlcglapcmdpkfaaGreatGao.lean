/-  -/
import Derived.Test.YtlcglapcmdpkfaaGreatGan
namespace Go.Proofs.YtlcglapcmdpkfaaGreat
open Go.RowKit
set_option linter.unusedSimpArgs false
set_option linter.unusedVariables false
set_option maxRecDepth 100000
set_option maxHeartbeats 16000000
theorem layP_snoc : ∀ (l : Pgs) (A : List Nat) (p : Int × Nat × List Nat), layP (l ++ [p]) A = layP l A ++ [if p.2.1 = 0 then (p.1, A.getD (freshN l).length 0, p.2.2) else p]
 | [], A, p => by
   unfold layP freshN
   by_cases h : p.2.1 = 0 <;> simp [layK, h]
 | q :: l, A, p => by
   have ih := fun A => layP_snoc l A p
   unfold layP at *
   by_cases hq : q.2.1 = 0
   ·have e1 : (freshN (q :: l ++ [p])).length = (freshN (l ++ [p])).length + 1 := by simp [freshN, hq]
    have e2 : (freshN (q :: l)).length = (freshN l).length + 1 := by simp [freshN, hq]
    rw [e1, e2]
    simp only [List.cons_append, layK, hq, if_true, Nat.add_sub_cancel, Nat.succ_ne_zero, if_false, Nat.add_eq_zero_iff, Nat.one_ne_zero, and_false]
    rw [ih (A.drop 1)]
    simp only [List.getD, List.getElem?_drop, Nat.add_comm 1]
   ·have e1 : (freshN (q :: l ++ [p])).length = (freshN (l ++ [p])).length := by simp [freshN, hq]
    have e2 : (freshN (q :: l)).length = (freshN l).length := by simp [freshN, hq]
    rw [e1, e2]
    simp only [List.cons_append, layK, hq, if_false]
    rw [ih A]
theorem tabB_snoc (l : Pgs) (A : List Nat) (p : Int × Nat × List Nat) : tabB (layP (l ++ [p]) A) = tabB (layP l A) ++ num p.1.toNat ++ num (if p.2.1 = 0 then A.getD (freshN l).length 0 else p.2.1) := by
 rw [layP_snoc]
 simp only [tabB, List.flatMap_append, List.flatMap_cons, List.flatMap_nil, List.append_nil, List.append_assoc]
 by_cases h : p.2.1 = 0 <;> simp [h]
theorem num_small16 {n : Nat} (h : n < 16384) : (num n).length ≤ 2 := by
 by_cases h1 : n < 128
 ·rw [num_small h1]; simp
 ·rw [num_big (by omega), num_small (by omega)]; simp
section
variable {w : World} {rk : Nat → Prop} {B r q : Nat} {tv kv nv : Value} {x : SS} {lk ln : List RPg}
theorem rtable_any (h : RsAt w rk B r q tv kv nv x lk ln) (v : Value) (A : List Nat) (hv : IntsAt w v A) (hA : (freshN x.now).length ≤ A.length) (hA2 : ∀ a ∈ A, a < 2048) :
  Calls Tryz.prog 90 #[.pointer (some ⟨r, 0, none⟩), v] w fun e w' => ∃ a c, e = .returned (.slice a (tabB (layP x.now A)).length c) ∧ Hid (Fresh w' w.heap.size (.slice a (tabB (layP x.now A)).length c) (tabB (layP x.now A)) ∧ Only (fun _ => False) w w') := by
 have HH : Hid (RsAt w rk B r q tv kv nv x lk ln) := h
 obtain ⟨a, c, hnv⟩ := h.nowForm
 have c5 := h.c5
 have hn7 := h.n728
 obtain ⟨av, cv, hvf, hvc⟩ := hv.shape
 have HV : Hid (∀ j, j < A.length → ∃ g o, av = some ⟨g, o, none⟩ ∧ w.cell? ⟨g, o + j, none⟩ = some (.int .i64 (A.getD j 0 : Nat))) := hvc
 obtain ⟨n, hn⟩ : ∃ n, n = x.now.length := ⟨_, rfl⟩
 obtain ⟨m0, hm0⟩ : ∃ n, n = A.length := ⟨_, rfl⟩
 rw [← hn] at hnv hn7
 rw [← hm0] at hvf
 have HN : Hid (n = x.now.length ∧ nv = .slice a n c ∧ m0 = A.length) := ⟨hn, hnv, hm0⟩
 have HA : Hid ((freshN x.now).length ≤ A.length ∧ ∀ a ∈ A, a < 2048) := ⟨hA, hA2⟩
 rw [hnv] at c5
 subst hvf
 clear h hnv hn hm0 hvc hA hA2 hv
 go_enter Tryz.func90, Tryz.ntmps90
 go_wp2_with fail
 go_loopw [5, 6, 7, 8] (fun b f t u8 wr => ∃ k m : Nat, k ≤ n ∧ m ≤ k ∧ t = .int .i64 k ∧ f = .int .i64 m ∧ Hid (m = (freshN (x.now.take k)).length ∧ (∃ (a : Option Addr) (c T : Nat), b = .slice a T c ∧ T ≤ 4 * k ∧ T = (tabB (layP (x.now.take k) A)).length ∧ Fresh wr w.heap.size (.slice a T c) (tabB (layP (x.now.take k) A))) ∧ Only (fun _ => False) w wr)) (fun _ _ t _ _ => n - (intOf t).toNat)
 case atStart => exact ⟨0, 0, Nat.zero_le _, Nat.le_refl _, rfl, rfl, by simp [freshN], ⟨none, 0, 0, rfl, by omega, by simp [tabB, layP, layK], by simpa [tabB, layP, layK] using Fresh.nil _ _⟩, Only.refl _ _⟩
 case round =>
  obtain ⟨k, m, hk, hmk, rfl, rfl, HI⟩ := hrel
  obtain ⟨hm, ⟨a2, c2, T, rfl, hT4, hT, hfr⟩, ho⟩ := HI.out
  clear HI
  obtain ⟨wq, rfl⟩ : ∃ q, q = wr := ⟨_, rfl⟩
  have y5 := ho.cell c5 (fun e => e)
  by_cases hlt : k < n
  ·have hkx : k < x.now.length := by rw [← HN.out.1]; exact hlt
   obtain ⟨g, c', hv, z0, z1⟩ := HH.out.page k hkx
   rw [HN.out.2.1] at hv
   simp only [Value.slice.injEq] at hv
   obtain ⟨rfl, _, rfl⟩ := hv
   have i0 : (0 : Int) ≤ (k : Int) := Int.natCast_nonneg _
   have i1 : (k : Int) < (n : Int) := by omega
   have h01 := (HH.out.wf.now _ (List.getElem_mem hkx)).1
   have h02 := (HH.out.wf.now _ (List.getElem_mem hkx)).2.1
   obtain ⟨I, hI⟩ : ∃ I : Nat, (I : Int) = (x.now[k]).1 := ⟨(x.now[k]).1.toNat, by omega⟩
   have hI7 : I < 728 := by omega
   obtain ⟨P, hP⟩ : ∃ P, P = (x.now[k]).2.1 := ⟨_, rfl⟩
   have hP7 : P < 2048 := by have := HH.out.wf.size; omega
   have hfm := freshN_take hkx
   have hfl : m + (if P = 0 then 1 else 0) ≤ A.length := by
    rw [hm, hP, ← hfm]
    refine Nat.le_trans ?_ HA.out.1
    unfold freshN
    simp only [List.length_map]
    exact (((List.take_sublist (k + 1) x.now).filter _).length_le)
   obtain ⟨Q, hQ⟩ : ∃ Q, Q = if P = 0 then A.getD m 0 else P := ⟨_, rfl⟩
   have hQ7 : Q < 2048 := by
    rw [hQ]
    split
    ·rename_i e
     rw [e, if_pos rfl] at hfl
     have : A.getD m 0 ∈ A := by simp only [List.getD, List.getElem?_eq_getElem (show m < A.length by omega)]; exact List.getElem_mem _
     exact HA.out.2 _ this
    ·exact hP7
   have hTB : tabB (layP (x.now.take (k + 1)) A) = tabB (layP (x.now.take k) A) ++ num I ++ num Q := by
    rw [List.take_succ_eq_append_getElem hkx, tabB_snoc, ← hP, ← hm, ← hQ, ← hI]
    simp
   have y0 := ho.cell z0 (fun e => e)
   have y1 := ho.cell z1 (fun e => e)
   rw [← hI] at y0
   rw [← hP] at y1
   have lI := num_small16 (n := I) (by omega)
   have lQ := num_small16 (n := Q) (by omega)
   obtain ⟨zs, hzs⟩ : ∃ zs, zs = tabB (layP (x.now.take k) A) := ⟨_, rfl⟩
   rw [← hzs] at hfr hT
   have hu1 : IntKind.u64.wrap (I : Int) = (I : Int) := by rw [IntKind.wrap_u64]; omega
   have hu2 : IntKind.u64.wrap (Q : Int) = (Q : Int) := by rw [IntKind.wrap_u64]; omega
   -- the first number and its append
   have HN1 : Hid (Calls Tryz.prog 111 #[.int .u64 (I : Nat)] wq fun e w1 => ∃ a1 c1 n1, e = .returned (.slice a1 n1 c1) ∧ Hid (∃ a3 c3 w3, (∀ ty, (Builtin.append_ #[37, 37] ty #[.slice a2 T c2, .slice a1 n1 c1]).run Tryz.prog w1 = .ok (.slice a3 (T + n1) c3) w3) ∧ Fresh w3 w.heap.size (.slice a3 (T + n1) c3) (zs ++ num I) ∧ n1 = (num I).length ∧ Only (fun _ => False) w w3 ∧ Only (fun _ => False) w w1)) := by
    have hnum := rnumber_any I wq (by omega)
    rw [Nat.mod_eq_of_lt (by omega : I < 9223372036854775808)] at hnum
    refine hnum.mono ?_
    rintro e w1 ⟨u, rfl, hu, ho1⟩
    obtain ⟨a1, c1, rfl⟩ := hu.form
    obtain ⟨a3, c3, w3, hr3, hf3, ho3⟩ := app_fresh (hfr.frame ho1) hu.bytes (by have := ho.size; have := ho1.size; omega) (by omega)
    rw [← hT] at hr3 hf3
    exact ⟨a1, c1, _, rfl, a3, c3, w3, hr3, hf3, rfl, (ho.trans ho1 (fun _ _ e => e)).trans ho3 (fun b hb e => by omega), ho.trans ho1 (fun _ _ e => e)⟩
   have HFIN : Hid (∀ (a3 : Option Addr) (c3 n1 : Nat) (w3 : World), Fresh w3 w.heap.size (.slice a3 (T + n1) c3) (zs ++ num I) → n1 = (num I).length → Only (fun _ => False) w w3 → Calls Tryz.prog 111 #[.int .u64 (Q : Nat)] w3 fun e w4 => ∃ a4 c4 n2, e = .returned (.slice a4 n2 c4) ∧ Hid (∃ a5 c5 w5, (∀ ty, (Builtin.append_ #[37, 37] ty #[.slice a3 (T + n1) c3, .slice a4 n2 c4]).run Tryz.prog w4 = .ok (.slice a5 (T + n1 + n2) c5) w5) ∧ Fresh w5 w.heap.size (.slice a5 (T + n1 + n2) c5) (tabB (layP (x.now.take (k + 1)) A)) ∧ T + n1 + n2 ≤ 4 * (k + 1) ∧ Only (fun _ => False) w w5)) := fun a3 c3 n1 w3 hf3 hn1 ho3 => by
    have hnum := rnumber_any Q w3 (by omega)
    rw [Nat.mod_eq_of_lt (by omega : Q < 9223372036854775808)] at hnum
    refine hnum.mono ?_
    rintro e w4 ⟨u, rfl, hu, ho4⟩
    obtain ⟨a4, c4, rfl⟩ := hu.form
    obtain ⟨a5, c5, w5, hr5, hf5, ho5⟩ := app_fresh (hf3.frame ho4) hu.bytes (by have := ho3.size; have := ho4.size; omega) (by rw [List.length_append]; omega)
    have e1 : (zs ++ num I).length = T + n1 := by rw [List.length_append, ← hT, ← hn1]
    rw [e1] at hr5 hf5
    rw [hTB, ← hzs]
    exact ⟨a4, c4, _, rfl, a5, c5, w5, hr5, hf5, by omega, (ho3.trans ho4 (fun _ _ e => e)).trans ho5 (fun b hb e => by omega)⟩
   have HMM : Hid ((P = 0 → m + 1 = (freshN (x.now.take (k + 1))).length) ∧ (P ≠ 0 → m = (freshN (x.now.take (k + 1))).length)) := by
    refine ⟨fun e => ?_, fun e => ?_⟩
    ·rw [hfm, ← hP, if_pos e, ← hm]
    ·rw [hfm, ← hP, if_neg e, ← hm]; rfl
   by_cases h0 : P = 0
   ·subst h0
    rw [if_pos rfl] at hQ hfl
    obtain ⟨gA, oA, hga, yA⟩ := HV.out m (by omega)
    subst hga
    have yA' := ho.cell yA (fun e => e)
    rw [← hQ] at yA'
    have m0' : (0 : Int) ≤ (m : Int) := Int.natCast_nonneg _
    have m1' : (m : Int) < (m0 : Int) := by have := HN.out.2.2; omega
    clear hfr hT hm hfm hfl hQ hTB z0 z1 hI hP h01 h02 hkx yA hzs hT4
    go_wp2_with fail
    refine (show Calls Tryz.prog 111 _ _ _ from HN1.out).mono ?_
    rintro e w1 ⟨a1, c1, n1, rfl, H1⟩
    obtain ⟨a3, c3, w3, hr3, hf3, hn1, ho3, ho1⟩ := H1.out
    have HR3 : Hid _ := hr3
    have HC2 : Hid (Calls Tryz.prog 111 _ _ _) := HFIN.out a3 c3 n1 w3 hf3 hn1 ho3
    clear hr3 hf3 hn1 H1 HN1 HFIN ho3 ho1 ho
    go_wp2_with (at_builtin; refine wpList_append_run rfl _ _ 37 rfl (.slice a2 T c2) (.slice a1 n1 c1) (.slice a3 (T + n1) c3) rfl rfl HR3.out ?_)
    refine (show Calls Tryz.prog 111 _ _ _ from HC2.out).mono ?_
    rintro e w4 ⟨a4, c4, n2, rfl, H2⟩
    obtain ⟨a5, c5', w5, hr5, hf5, hT5, ho5⟩ := H2.out
    have HR5 : Hid _ := hr5
    have HF5 : Hid (Fresh w5 w.heap.size (.slice a5 (T + n1 + n2) c5') (tabB (layP (x.now.take (k + 1)) A)) ∧ T + n1 + n2 ≤ 4 * (k + 1) ∧ Only (fun _ => False) w w5) := ⟨hf5, hT5, ho5⟩
    clear hr5 hf5 hT5 ho5 H2 HC2 HR3
    go_wp2_with (at_builtin; refine wpList_append_run rfl _ _ 37 rfl (.slice a3 (T + n1) c3) (.slice a4 n2 c4) (.slice a5 (T + n1 + n2) c5') rfl rfl HR5.out ?_)
    go_roundw
    case rel =>
     obtain ⟨q1, q2, q3⟩ := HF5.out
     exact ⟨k + 1, m + 1, by omega, by omega, by go_num, by go_num, HMM.out.1 (by trivial), ⟨a5, c5', T + n1 + n2, rfl, q2, by obtain ⟨ax, cx, hx⟩ := q1.form; simp only [Value.slice.injEq] at hx; exact hx.2.1, q1⟩, q3⟩
    case measure => simp [intOf]; omega
   ·have hb : ((P : Int) == 0) = false := by simp; omega
    rw [if_neg h0] at hQ
    subst hQ
    clear hfr hT hm hfm hfl hTB z0 z1 hI hP h01 h02 hkx hzs hT4
    go_wp2_with fail
    refine (show Calls Tryz.prog 111 _ _ _ from HN1.out).mono ?_
    rintro e w1 ⟨a1, c1, n1, rfl, H1⟩
    obtain ⟨a3, c3, w3, hr3, hf3, hn1, ho3, ho1⟩ := H1.out
    have HR3 : Hid _ := hr3
    have HC2 : Hid (Calls Tryz.prog 111 _ _ _) := HFIN.out a3 c3 n1 w3 hf3 hn1 ho3
    clear hr3 hf3 hn1 H1 HN1 HFIN ho3 ho1 ho
    go_wp2_with (at_builtin; refine wpList_append_run rfl _ _ 37 rfl (.slice a2 T c2) (.slice a1 n1 c1) (.slice a3 (T + n1) c3) rfl rfl HR3.out ?_)
    refine (show Calls Tryz.prog 111 _ _ _ from HC2.out).mono ?_
    rintro e w4 ⟨a4, c4, n2, rfl, H2⟩
    obtain ⟨a5, c5', w5, hr5, hf5, hT5, ho5⟩ := H2.out
    have HR5 : Hid _ := hr5
    have HF5 : Hid (Fresh w5 w.heap.size (.slice a5 (T + n1 + n2) c5') (tabB (layP (x.now.take (k + 1)) A)) ∧ T + n1 + n2 ≤ 4 * (k + 1) ∧ Only (fun _ => False) w w5) := ⟨hf5, hT5, ho5⟩
    clear hr5 hf5 hT5 ho5 H2 HC2 HR3
    go_wp2_with (at_builtin; refine wpList_append_run rfl _ _ 37 rfl (.slice a3 (T + n1) c3) (.slice a4 n2 c4) (.slice a5 (T + n1 + n2) c5') rfl rfl HR5.out ?_)
    go_roundw
    case rel =>
     obtain ⟨q1, q2, q3⟩ := HF5.out
     exact ⟨k + 1, m, by omega, by omega, by go_num, rfl, HMM.out.2 h0, ⟨a5, c5', T + n1 + n2, rfl, q2, by obtain ⟨ax, cx, hx⟩ := q1.form; simp only [Value.slice.injEq] at hx; exact hx.2.1, q1⟩, q3⟩
    case measure => simp [intOf]; omega
  ·obtain rfl : k = n := by omega
   have HF : Hid (T = (tabB (layP x.now A)).length ∧ Fresh wq w.heap.size (.slice a2 T c2) (tabB (layP x.now A)) ∧ Only (fun _ => False) w wq) := by
    rw [List.take_of_length_le (by rw [HN.out.1]; exact Nat.le_refl _)] at hfr hT
    exact ⟨hT, hfr, ho⟩
   clear hfr ho hT hm
   go_wp2
   go_ret
   obtain ⟨q1, q2, q3⟩ := HF.out
   rw [← q1]
   exact ⟨_, _, rfl, q2, q3⟩
end
end Go.Proofs.YtlcglapcmdpkfaaGreat
