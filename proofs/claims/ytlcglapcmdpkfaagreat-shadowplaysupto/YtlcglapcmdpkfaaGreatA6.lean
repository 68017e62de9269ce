import Derived.Test.YtlcglapcmdpkfaaGreatA5
namespace Go.Proofs.YtlcglapcmdpkfaaGreat
open Go.RowKit Go.Maps Go.Shelf
set_option linter.unusedSimpArgs false
set_option linter.unusedVariables false
def needN (x : SS) : Nat := needA x (plA x)
theorem tab_small {x : SS} (h : x.Wf) (hl : x.now.length ≤ 728) {A : List Nat} (hA : ∀ a ∈ A, a < 2048) : (tabB (layP x.now A)).length ≤ 2912 := by
 have h4 := tabB_len _ (lay_wf h hA)
 rw [layP_length] at h4
 omega
theorem plA_small {x : SS} (h : x.Wf) : ∀ a ∈ plA x, a < 2048 := fun a ha => by have := plA_lt h a ha; have := h.size; omega
theorem putN_le (x : SS) : putN x ≤ x.now.length := freshN_len _
set_option maxRecDepth 100000 in
set_option maxHeartbeats 2000000 in
theorem room_any {w : World} {dk : Nat → Prop} {s p mc mn : Nat} {tv : Value} {x : SS} (h : StAt w dk s p mc mn tv x) (hdk : ∀ k, dk k → k < w.heap.size) :
  Calls Tryz.prog 47 #[.pointer (some ⟨s, 0, none⟩)] w fun e w' => e = .returned (.tuple #[.int .i64 (freeN x x.size : Nat), .int .i64 (needN x : Nat)]) ∧ Only (fun _ => False) w w' := by
 have HU := usable_ok s p w h.c0
 have HF : Hid (Calls Tryz.prog 76 _ _ _) := free_any h
 have HS : Hid (StAt w dk s p mc mn tv x) := h
 have hnl := st_len h
 have hT := tab_small h.wf hnl (plA_small h.wf)
 have hP := putN_le x
 obtain ⟨T, hTe⟩ : ∃ T, T = (tabB (layP x.now (plA x))).length := ⟨_, rfl⟩
 have HN : Hid (needN x = putN x + tabN T) := by rw [hTe]; rfl
 obtain ⟨fn, hfn⟩ : ∃ q, q = freeN x x.size := ⟨_, rfl⟩
 obtain ⟨nd, hnd⟩ : ∃ q, q = needN x := ⟨_, rfl⟩
 obtain ⟨F, hF⟩ : ∃ q, q = putN x := ⟨_, rfl⟩
 have HF' : Hid (F = putN x ∧ nd = needN x ∧ T = (tabB (layP x.now (plA x))).length) := ⟨hF, hnd, hTe⟩
 rw [← hfn] at HF ⊢
 rw [← hnd, ← hF] at HN
 rw [← hnd]
 rw [← hF] at hP
 rw [← hTe] at hT
 clear h hfn hnd hF hTe
 go_enter Tryz.func47, Tryz.ntmps47
 go_wp2_with (go_at_call 35; refine HU.mono ?_; rintro e w' ⟨rfl, rfl⟩)
 refine (show Calls Tryz.prog 76 _ _ _ from HF.out).mono ?_
 rintro e w1 ⟨rfl, ho1⟩
 clear HF
 have HPl : Hid (Calls Tryz.prog 54 _ _ _) := plan_any (HS.out.still ho1) (fun k hk => Nat.lt_of_lt_of_le (hdk k hk) ho1.size)
 have HO : Hid _ := ho1
 clear ho1
 go_wp2_with fail
 refine (show Calls Tryz.prog 54 _ _ _ from HPl.out).mono ?_
 rintro e w2 ⟨a1, c1, m, a3, c3, rfl, HP⟩
 clear HPl
 rw [← HF'.out.1, ← HF'.out.2.2]
 have HNd : Hid (Calls Tryz.prog 57 #[.agg #[.slice a1 F c1, .map (some m), .slice a3 T c3]] w2 fun e w' => e = .returned (.int .i64 (nd : Nat)) ∧ Only (fun _ => False) w2 w') := by
  have := need_any a1 a3 F c1 T c3 (some m) w2 (by omega) (by omega)
  rw [← HN.out] at this
  exact this
 go_wp2_with (go_at_call 57; refine (show Calls Tryz.prog 57 _ _ _ from HNd.out).mono ?_; rintro e w3 ⟨rfl, ho3⟩)
 go_ret2
 exact ⟨rfl, (HO.out.trans HP.out.2.2.2.2 (fun _ _ e => e)).trans ho3 (fun _ _ e => e)⟩
def tbs (x : SS) : List Nat := ((freeL x x.size).take (needN x)).drop (putN x)
def laid (x : SS) : Pgs := layP x.now (plA x)
def SS.next (x : SS) : SS := ⟨x.size, (x.epoch + 1) % 18446744073709551616, 4 - x.sector, tbs x, laid x, laid x⟩
def cmX (x : SS) (d : DS) : Int × DS := cmR x (laid x) (freshN x.now) (tabB (laid x)) (tbs x) d
theorem layK_mem2 : ∀ {l : Pgs} {A : List Nat} {k : Nat} {q : Int × Nat × List Nat}, q ∈ layK l A k → (freshN l).length ≤ k → (freshN l).length ≤ A.length → (q ∈ l ∧ q.2.1 ≠ 0) ∨ ((q.1, 0, q.2.2) ∈ l ∧ q.2.1 ∈ A)
 | [], _, _, _, h, _, _ => by cases h
 | p :: l, A, k, q, h, hk, hA => by
   simp only [layK] at h
   by_cases hz : p.2.1 = 0
   ·have hz' : (p.2.1 == 0) = true := by simpa using hz
    simp only [freshN, List.filter_cons, hz', if_true, List.map_cons, List.length_cons, List.length_map] at hk hA
    rw [if_pos hz, if_neg (by omega)] at h
    rcases List.mem_cons.1 h with e | e
    ·subst e
     refine .inr ⟨?_, ?_⟩
     ·simp only
      rw [← hz]
      exact List.mem_cons_self ..
     ·cases A with
      | nil => simp at hA
      | cons a r => simp
    ·rcases layK_mem2 e (by simp only [freshN, List.length_map]; omega) (by simp only [freshN, List.length_map, List.length_drop]; omega) with ⟨e1, e2⟩ | ⟨e1, e2⟩
     ·exact .inl ⟨List.mem_cons_of_mem _ e1, e2⟩
     ·exact .inr ⟨List.mem_cons_of_mem _ e1, List.mem_of_mem_drop e2⟩
   ·have hz' : (p.2.1 == 0) = false := by simpa using hz
    simp only [freshN, List.filter_cons, hz', List.length_map] at hk hA
    rw [if_neg hz] at h
    rcases List.mem_cons.1 h with e | e
    ·subst e
     exact .inl ⟨List.mem_cons_self .., hz⟩
    ·rcases layK_mem2 e (by simpa [freshN] using hk) (by simpa [freshN] using hA) with ⟨e1, e2⟩ | ⟨e1, e2⟩
     ·exact .inl ⟨List.mem_cons_of_mem _ e1, e2⟩
     ·exact .inr ⟨List.mem_cons_of_mem _ e1, e2⟩
theorem num_mono : ∀ (a b : Nat), a ≤ b → (num a).length ≤ (num b).length := by
 intro a
 induction a using Nat.strongRecOn with
 | ind a ih =>
   intro b h
   by_cases h1 : a < 128
   ·rw [num_small h1]; exact num_pos b
   ·rw [num_big h1, num_big (show ¬ b < 128 by omega)]
    simp only [List.length_cons]
    have := ih (a / 128) (by omega) (b / 128) (by omega)
    omega
theorem tab_le : ∀ (l : Pgs) (A C : List Nat) (k : Nat), (∀ j, A.getD j 0 ≤ C.getD j 0) → (tabB (layK l A k)).length ≤ (tabB (layK l C k)).length
 | [], _, _, _, _ => Nat.le_refl _
 | p :: l, A, C, k, h => by
   have e : ∀ (q : Int × Nat × List Nat) (r : Pgs), (tabB (q :: r)).length = (num q.1.toNat).length + (num q.2.1).length + (tabB r).length := fun q r => by simp [tabB]; omega
   simp only [layK]
   split
   ·have ih := tab_le l (A.drop 1) (C.drop 1) (k - 1) (fun j => by have := h (j + 1); simpa [List.getD] using this)
    rw [e, e]
    split
    ·omega
    ·have := num_mono _ _ (h 0)
     simp only
     omega
   ·have ih := tab_le l A C k h
    rw [e, e]
    omega
theorem plA_fits {x : SS} (h : x.Wf) : needN x ≤ freeN x x.size ↔ putN x ≤ freeN x x.size ∧ needA x ((freeL x x.size).take (putN x)) ≤ freeN x x.size := by
 constructor
 ·intro hn
  by_cases hc : putN x ≤ freeN x x.size ∧ needA x ((freeL x x.size).take (putN x)) ≤ freeN x x.size
  ·exact hc
  ·have e : plA x = List.replicate (putN x) (x.size - 1) := by unfold plA; rw [if_neg hc]
   unfold needN at hn
   rw [e] at hn
   have hp : putN x ≤ freeN x x.size := by unfold needA at hn; omega
   refine ⟨hp, Nat.le_trans ?_ hn⟩
   unfold needA
   have := tab_le x.now ((freeL x x.size).take (putN x)) (List.replicate (putN x) (x.size - 1)) (freshN x.now).length (fun j => by
    by_cases hj : j < putN x
    ·have hl : j < ((freeL x x.size).take (putN x)).length := by rw [List.length_take, freeL_len]; omega
     have hm : ((freeL x x.size).take (putN x)).getD j 0 ∈ (freeL x x.size).take (putN x) := by
      simp only [List.getD, List.getElem?_eq_getElem hl, Option.getD_some]
      exact List.getElem_mem hl
     have := (freeL_mem.1 (List.mem_of_mem_take hm)).1
     have e2 : (List.replicate (putN x) (x.size - 1)).getD j 0 = x.size - 1 := by simp [List.getD, hj]
     rw [e2]
     omega
    ·have : ((freeL x x.size).take (putN x)).getD j 0 = 0 := by
      simp only [List.getD]
      rw [List.getElem?_eq_none (by rw [List.length_take]; omega)]
      rfl
     rw [this]
     exact Nat.zero_le _)
   simp only [layP]
   have : tabN (tabB (layK x.now ((freeL x x.size).take (putN x)) (freshN x.now).length)).length ≤ tabN (tabB (layK x.now (List.replicate (putN x) (x.size - 1)) (freshN x.now).length)).length := by unfold tabN; omega
   omega
 ·intro hc
  unfold needN
  have : plA x = (freeL x x.size).take (putN x) := by unfold plA; rw [if_pos hc]
  rw [this]
  exact hc.2
theorem plA_true {x : SS} (h : x.Wf) (hn : needN x ≤ freeN x x.size) : plA x = (freeL x x.size).take (putN x) := by
 unfold plA
 rw [if_pos ((plA_fits h).1 hn)]
theorem used_two {x : SS} {j : Nat} (h : usedF x j = false) : 2 ≤ j := by
 unfold usedF at h
 simp only [Bool.or_eq_false_iff, decide_eq_false_iff_not] at h
 omega
theorem next_wf {x : SS} (h : x.Wf) (hn : needN x ≤ freeN x x.size) : x.next.Wf := by
 have hc : ∀ p ∈ laid x, (0 ≤ p.1 ∧ p.1 < 728) ∧ (2 ≤ p.2.1 ∧ p.2.1 < x.size) ∧ p.2.2.length ≤ 116 := fun p hp => by
  rcases layK_mem2 hp (Nat.le_refl _) (by rw [plA_length]; exact Nat.le_refl _) with ⟨e1, e2⟩ | ⟨e1, e2⟩
  ·obtain ⟨q1, q2, q3⟩ := h.now p e1
   exact ⟨q1, by omega, q3⟩
  ·obtain ⟨q1, q2, q3⟩ := h.now _ e1
   rw [plA_true h hn] at e2
   have := freeL_mem.1 (List.mem_of_mem_take e2)
   exact ⟨q1, ⟨used_two this.2, this.1⟩, q3⟩
 refine { size := h.size, epoch := Nat.mod_lt _ (by omega), sector := ?_, tabs := ⟨?_, fun t ht => ?_⟩, com := hc, now := fun p hp => ?_ }
 ·show 4 - x.sector = 0 ∨ 4 - x.sector = 4
  have := h.sector
  omega
 ·show (tbs x).length ≤ 2048
  unfold tbs
  rw [List.length_drop, List.length_take, freeL_len]
  have := freeN_le x x.size
  have := h.size
  omega
 ·have := freeL_mem.1 (List.mem_of_mem_take (List.mem_of_mem_drop ht))
  exact ⟨used_two this.2, this.1⟩
 ·obtain ⟨q1, q2, q3⟩ := hc p hp
  exact ⟨q1, .inr q2, q3⟩
theorem tbs_length {x : SS} (hn : needN x ≤ freeN x x.size) : (tbs x).length = tabN (tabB (laid x)).length := by
 unfold tbs
 rw [List.length_drop, List.length_take, freeL_len, Nat.min_eq_left hn]
 unfold needN needA laid
 omega
end Go.Proofs.YtlcglapcmdpkfaaGreat
