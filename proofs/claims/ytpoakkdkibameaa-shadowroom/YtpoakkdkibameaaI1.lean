/- Pages lie apart: those of the data and those of the tables; how many are free behind a commit. -/
import Derived.Test.YtpoakkdkibameaaA9
namespace Go.Proofs.Ytpoakkdkibameaa
open Go.RowKit Go.Maps Go.Shelf
set_option linter.unusedSimpArgs false
set_option linter.unusedVariables false

/-- No page of the disk is in use twice; what was not put since is as it was committed. -/
def Inv (x : SS) : Prop := (x.com.map (fun p => p.2.1) ++ x.tabs).Nodup ∧ ∀ p ∈ x.now, p.2.1 ≠ 0 → p ∈ x.com
theorem room_count {x : SS} (hw : x.Wf) (hn : (x.com.map (fun p => p.2.1) ++ x.tabs).Nodup) : freeN x x.size + x.com.length + x.tabs.length + 2 = x.size := by
  obtain ⟨U, hU⟩ : ∃ U, U = x.com.map (fun p => p.2.1) ++ x.tabs := ⟨_, rfl⟩
  have hUm : ∀ j, j ∈ U ↔ (∃ p ∈ x.com, p.2.1 = j) ∨ j ∈ x.tabs := fun j => by rw [hU]; simp only [List.mem_append, List.mem_map]
  have hU2 : ∀ j ∈ U, 2 ≤ j ∧ j < x.size := fun j hj => by
    rcases (hUm j).1 hj with ⟨p, hp, rfl⟩ | h
    · exact (hw.com p hp).2.1
    · exact hw.tabs.2 j h
  have hus : ∀ j, usedF x j = true ↔ j < 2 ∨ j ∈ U := fun j => by
    rw [hUm]
    unfold usedF
    simp only [Bool.or_eq_true, decide_eq_true_eq, List.any_eq_true, beq_iff_eq, or_assoc]
    constructor
    · rintro (h | ⟨p, hp, e⟩ | ⟨t, ht, e⟩)
      · exact .inl h
      · exact .inr (.inl ⟨p, hp, e⟩)
      · exact .inr (.inr (e ▸ ht))
    · rintro (h | ⟨p, hp, e⟩ | h)
      · exact .inl h
      · exact .inr (.inl ⟨p, hp, e⟩)
      · exact .inr (.inr ⟨j, h, rfl⟩)
  have hfr : ∀ j, j ∈ freeL x x.size ↔ j < x.size ∧ ¬ (j < 2 ∨ j ∈ U) := fun j => by
    rw [freeL_mem, ← hus]
    simp
  have nd : ([0, 1] ++ (U ++ freeL x x.size)).Nodup := by
    have h1 : (U ++ freeL x x.size).Nodup := by
      refine List.pairwise_append.2 ⟨by rw [hU]; exact hn, (freeL_rise x x.size).imp (fun h => Nat.ne_of_lt h), fun a ha b hb e => ?_⟩
      subst e
      exact ((hfr a).1 hb).2 (.inr ha)
    refine List.pairwise_append.2 ⟨by simp, h1, fun a ha b hb e => ?_⟩
    subst e
    have : a < 2 := by simp at ha; omega
    rcases List.mem_append.1 hb with h | h
    · have := hU2 a h; omega
    · exact ((hfr a).1 h).2 (.inl this)
  have P : (List.range x.size).Perm ([0, 1] ++ (U ++ freeL x x.size)) := (List.perm_ext_iff_of_nodup List.nodup_range nd).2 (fun j => by
    rw [List.mem_range, List.mem_append, List.mem_append, hfr]
    have hs := hw.size
    constructor
    · intro h
      by_cases h2 : j < 2
      · exact .inl (by simp; omega)
      · by_cases hj : j ∈ U
        · exact .inr (.inl hj)
        · exact .inr (.inr ⟨h, fun e => e.elim h2 hj⟩)
    · rintro (h | h | h)
      · simp at h; omega
      · exact (hU2 j h).2
      · exact h.1)
  have hl := P.length_eq
  simp only [List.length_range, List.length_append, freeL_len, hU, List.length_map, List.length_cons, List.length_nil] at hl
  omega
theorem lay_perm : ∀ (l : Pgs) (A : List Nat) (k : Nat), (freshN l).length ≤ k → (freshN l).length ≤ A.length → ((layK l A k).map (fun p => p.2.1)).Perm (((l.filter fun p => !(p.2.1 == 0)).map (fun p => p.2.1)) ++ A.take (freshN l).length)
  | [], A, k, _, _ => by simp [layK, freshN]
  | p :: l, A, k, hk, hA => by
    by_cases hz : p.2.1 = 0
    · have hz' : (p.2.1 == 0) = true := by simpa using hz
      have ef : (freshN (p :: l)).length = (freshN l).length + 1 := by simp [freshN, List.filter_cons, hz']
      rw [ef] at hk hA ⊢
      cases A with
      | nil => simp at hA
      | cons a r =>
        have ih := lay_perm l r (k - 1) (by omega) (by simp at hA; omega)
        simp only [layK, if_pos hz]
        rw [if_neg (by omega)]
        simp only [List.map_cons, List.filter_cons, hz', Bool.not_true, Bool.false_eq_true, if_false, List.take_succ_cons, List.getD_cons_zero, List.drop_succ_cons, List.drop_zero]
        exact (ih.cons a).trans List.perm_middle.symm
    · have hz' : (p.2.1 == 0) = false := by simpa using hz
      have ef : (freshN (p :: l)).length = (freshN l).length := by simp [freshN, List.filter_cons, hz']
      rw [ef] at hk hA ⊢
      have ih := lay_perm l A k hk hA
      simp only [layK, if_neg hz, List.map_cons, List.filter_cons, hz', Bool.not_false, if_true, List.cons_append]
      exact ih.cons _
theorem next_nodup {x : SS} (hw : x.Wf) (hr : Rise x.now) (hf : needN x ≤ freeN x x.size) (hi : Inv x) : ((laid x).map (fun p => p.2.1) ++ tbs x).Nodup := by
  obtain ⟨kept, hk⟩ : ∃ kept, kept = (x.now.filter fun p => !(p.2.1 == 0)).map (fun p => p.2.1) := ⟨_, rfl⟩
  have hp := lay_perm x.now (plA x) (freshN x.now).length (Nat.le_refl _) (by rw [plA_length]; exact Nat.le_refl _)
  rw [← hk, List.take_of_length_le (by rw [plA_length]; exact Nat.le_refl _), plA_true hw hf] at hp
  have hle : putN x ≤ needN x := by unfold needN needA; omega
  have he : (freeL x x.size).take (putN x) ++ tbs x = (freeL x x.size).take (needN x) := by
    unfold tbs
    have := List.take_append_drop (putN x) ((freeL x x.size).take (needN x))
    rw [List.take_take, Nat.min_eq_left hle] at this
    exact this
  have hP : ((laid x).map (fun p => p.2.1) ++ tbs x).Perm (kept ++ (freeL x x.size).take (needN x)) := by
    have := hp.append_right (tbs x)
    rw [List.append_assoc, he] at this
    unfold laid layP
    rw [plA_true hw hf]
    exact this
  refine hP.symm.nodup (List.pairwise_append.2 ⟨?_, ((freeL_rise x x.size).imp (fun h => Nat.ne_of_lt h)).sublist (List.take_sublist _ _), fun a ha b hb e => ?_⟩)
  · rw [hk]
    refine List.pairwise_map.2 ?_
    have hc : x.com.Pairwise (fun p q => p.2.1 ≠ q.2.1) := by
      have := (List.pairwise_append.1 hi.1).1
      exact List.pairwise_map.1 this
    have hcc : ∀ p ∈ x.com, ∀ q ∈ x.com, p.2.1 = q.2.1 → p = q := by
      intro p hp q hq e
      obtain ⟨i, h1, rfl⟩ := List.getElem_of_mem hp
      obtain ⟨j, h2, rfl⟩ := List.getElem_of_mem hq
      have hpw := List.pairwise_iff_getElem.1 hc
      rcases Nat.lt_trichotomy i j with h | h | h
      · exact absurd e (hpw i j h1 h2 h)
      · subst h; rfl
      · exact absurd e.symm (hpw j i h2 h1 h)
    have hrf : (x.now.filter fun p => !(p.2.1 == 0)).Pairwise (fun p q => p.1 < q.1) := List.Pairwise.filter _ hr
    refine List.Pairwise.imp_of_mem (fun {p q} hp hq h e => ?_) hrf
    have h1 := List.mem_filter.1 hp
    have h2 := List.mem_filter.1 hq
    have e2 := hcc p (hi.2 p h1.1 (by simpa using h1.2)) q (hi.2 q h2.1 (by simpa using h2.2)) e
    rw [e2] at h
    omega
  · subst e
    rw [hk] at ha
    obtain ⟨p, hp, rfl⟩ := List.mem_map.1 ha
    have h1 := List.mem_filter.1 hp
    have hpc := hi.2 p h1.1 (by simpa using h1.2)
    have := (freeL_mem.1 (List.mem_of_mem_take hb)).2
    unfold usedF at this
    simp only [Bool.or_eq_false_iff, List.any_eq_false] at this
    have := this.1.2 p hpc
    simp at this
theorem laid_places {x : SS} (hw : x.Wf) (hf : needN x ≤ freeN x x.size) : ∀ p ∈ laid x, p.2.1 ≠ 0 := fun p hp => by
  have := ((next_wf hw hf).com p hp).2.1.1
  omega
theorem layK_none : ∀ (l : Pgs) (A : List Nat) (k : Nat), (∀ p ∈ l, p.2.1 ≠ 0) → layK l A k = l
  | [], _, _, _ => rfl
  | p :: l, A, k, h => by
    simp only [layK, if_neg (h p (List.mem_cons_self ..))]
    rw [layK_none l A k (fun q hq => h q (List.mem_cons_of_mem _ hq))]
theorem fresh_none {l : Pgs} (h : ∀ p ∈ l, p.2.1 ≠ 0) : freshN l = [] := by
  unfold freshN
  rw [List.filter_eq_nil_iff.2 (fun p hp => by simpa using h p hp)]
  rfl
theorem next_need {x : SS} (hw : x.Wf) (hf : needN x ≤ freeN x x.size) : needN x.next = (tbs x).length := by
  have h := laid_places hw hf
  have e : x.next.now = laid x := rfl
  unfold needN needA putN layP
  rw [e, layK_none _ _ _ h, fresh_none h, tbs_length hf]
  simp
theorem stable_inv : Stable (fun x _ => Inv x) := by
  refine ⟨fun {w B0 s p S x d} h i zs hi hl hx => ⟨hx.1, fun q hq hz => ?_⟩, fun {w B0 s p S x d} h i hx => ⟨hx.1, fun q hq hz => hx.2 q ((delL_mem _ _ _).1 hq).1 hz⟩, fun {w B0 s p S x d} h hx => ⟨hx.1, fun q hq hz => hq⟩, fun {w B0 s p S x d} h hf hx => ?_⟩
  · rcases (putL_mem _ _ _ _).1 hq with rfl | hq
    · exact absurd rfl hz
    · exact hx.2 q hq.1 hz
  · obtain ⟨pv, mc, mn, tv, B, h1, h2, h3, h4⟩ := h.all
    exact ⟨next_nodup h3.wf h3.now.rise hf hx, fun q hq hz => hq⟩
end Go.Proofs.Ytpoakkdkibameaa
