import Derived.Test.YtlcglapcmdpkfaaGreatW3
import Derived.Test.YtlcglapcmdpkfaaGreatN4
namespace Go.Proofs.YtlcglapcmdpkfaaGreat
open Go.RowKit Go.Maps
set_option linter.unusedSimpArgs false
set_option linter.unusedVariables false
def freshN (l : Pgs) : List Nat := (l.filter fun p => p.2.1 == 0).map fun p => p.1.toNat
def layK : Pgs → List Nat → Nat → Pgs
 | [], _, _ => []
 | p :: l, A, k => if p.2.1 = 0 then (if k = 0 then p else (p.1, A.getD 0 0, p.2.2)) :: layK l (A.drop 1) (k - 1) else p :: layK l A k
def tabB (l : Pgs) : List Nat := l.flatMap fun p => num p.1.toNat ++ num p.2.1
def setL {α : Type} (l : List (Int × α)) (i : Int) (v : α) : List (Int × α) := l.map fun p => if p.1 = i then (p.1, v) else p
theorem setL_keys {α : Type} (l : List (Int × α)) (i : Int) (v : α) : (setL l i v).map (·.1) = l.map (·.1) := by
 simp only [setL, List.map_map]
 apply List.map_congr_left
 intro p _
 simp only [Function.comp]
 split <;> rfl
theorem Rise.keys {α β : Type} {l : List (Int × α)} {m : List (Int × β)} (h : Rise l) (e : m.map (·.1) = l.map (·.1)) : Rise m := by
 have h1 : (l.map (·.1)).Pairwise (· < ·) := List.pairwise_map.2 h
 rw [← e] at h1
 exact List.pairwise_map.1 h1
theorem setL_mem {α : Type} {l : List (Int × α)} {i : Int} {v : α} {p : Int × α} : p ∈ setL l i v ↔ (p.1 = i ∧ p.2 = v ∧ ∃ q ∈ l, q.1 = i) ∨ (p ∈ l ∧ p.1 ≠ i) := by
 simp only [setL, List.mem_map]
 constructor
 ·rintro ⟨q, hq, rfl⟩
  by_cases e : q.1 = i
  ·rw [if_pos e]; exact .inl ⟨e, rfl, q, hq, e⟩
  ·rw [if_neg e]; exact .inr ⟨hq, e⟩
 ·rintro (⟨e1, e2, q, hq, e⟩ | ⟨hp, e⟩)
  ·exact ⟨q, hq, by rw [if_pos e]; exact Prod.ext (e.trans e1.symm) e2.symm⟩
  ·exact ⟨p, hp, by rw [if_neg e]⟩
theorem putL_set {α : Type} {l : List (Int × α)} (h : Rise l) {i : Int} (hi : ∃ q ∈ l, q.1 = i) (v : α) : putL l i v = setL l i v := by
 have h2 : Rise (setL l i v) := h.keys (setL_keys l i v)
 apply (h.put i v).ext h2
 intro k
 cases e : getL (setL l i v) k with
 | none =>
   rw [getL_none] at e ⊢
   intro p hp
   rcases (putL_mem _ _ _ _).1 hp with rfl | hp
   ·exact e (i, v) (setL_mem.2 (.inl ⟨rfl, rfl, hi⟩))
   ·exact e p (setL_mem.2 (.inr hp))
 | some u =>
   rw [getL_mem (h.put i v), putL_mem]
   rw [getL_mem h2] at e
   rcases setL_mem.1 e with ⟨e1, e2, _⟩ | e1
   ·exact .inl (Prod.ext e1 e2)
   ·exact .inr e1
theorem layK_keys : ∀ (l : Pgs) (A : List Nat) (k : Nat), (layK l A k).map (·.1) = l.map (·.1)
 | [], _, _ => rfl
 | p :: l, A, k => by
   simp only [layK]
   split
   ·rw [List.map_cons, layK_keys l]
    split <;> rfl
   ·rw [List.map_cons, layK_keys l, List.map_cons]
theorem layK_zero : ∀ (l : Pgs) (A : List Nat), layK l A 0 = l
 | [], _ => rfl
 | p :: l, A => by
   simp only [layK, if_true, Nat.zero_sub]
   rw [layK_zero l, layK_zero l]
   split <;> rfl
theorem setL_id {α : Type} {l : List (Int × α)} {i : Int} (h : ∀ p ∈ l, p.1 ≠ i) (v : α) : setL l i v = l := by
 unfold setL
 conv => rhs; rw [← List.map_id l]
 apply List.map_congr_left
 intro p hp
 rw [if_neg (h p hp)]
 rfl
theorem layK_step : ∀ (l : Pgs) (A : List Nat) (k : Nat) (i : Int) (dt : List Nat), Rise l → (∀ p ∈ l, 0 ≤ p.1) → (i, 0, dt) ∈ l → (freshN l)[k]? = some i.toNat → setL (layK l A k) i (A.getD k 0, dt) = layK l A (k + 1)
 | [], _, _, _, _, _, _, h, _ => by cases h
 | p :: l, A, k, i, dt, hr, h0, hm, hk => by
   have hp := List.pairwise_cons.1 hr
   have h0' : ∀ q ∈ l, 0 ≤ q.1 := fun q hq => h0 q (List.mem_cons_of_mem _ hq)
   have hpi := h0 p (List.mem_cons_self ..)
   have hne : ∀ q ∈ l, q.1 ≠ p.1 := fun q hq e => by have := hp.1 q hq; omega
   have hkl : ∀ (A : List Nat) (j : Nat), ∀ q ∈ layK l A j, q.1 ≠ p.1 := fun A j q hq e => by
    have : q.1 ∈ (layK l A j).map (·.1) := List.mem_map.2 ⟨q, hq, rfl⟩
    rw [layK_keys] at this
    obtain ⟨q', hq', e'⟩ := List.mem_map.1 this
    exact hne q' hq' (e'.trans e)
   have hi0 : 0 ≤ i := h0 _ hm
   by_cases hz : p.2.1 = 0
   ·have hz' : (p.2.1 == 0) = true := by simpa using hz
    simp only [freshN, List.filter_cons, hz', if_true, List.map_cons] at hk
    cases k with
    | zero =>
      have e : p.1 = i := by simp at hk; omega
      subst e
      have hpe : p = (p.1, 0, dt) := by
       rcases List.mem_cons.1 hm with e | e
       ·exact e.symm
       ·exact absurd rfl (hne (p.1, 0, dt) e)
      simp only [layK, if_pos hz, if_true, Nat.zero_sub, Nat.zero_add, Nat.sub_self, Nat.add_sub_cancel]
      rw [layK_zero]
      simp only [setL, List.map_cons, if_true]
      rw [show (l.map fun q => if q.1 = p.1 then (q.1, (A.getD 0 0, dt)) else q) = l from setL_id hne _]
      simp only [Nat.one_ne_zero, if_false]
      rw [hpe]
    | succ k =>
      have hk' : (freshN l)[k]? = some i.toNat := by simpa [freshN] using hk
      have hmem : i.toNat ∈ freshN l := List.mem_of_getElem? hk'
      obtain ⟨q, hq, hqe⟩ := List.mem_map.1 hmem
      have hql := (List.mem_filter.1 hq).1
      have hq0 := h0' q hql
      have hqi : q.1 = i := by omega
      have hpi' : p.1 ≠ i := fun e => hne q hql (by omega)
      have hm' : (i, 0, dt) ∈ l := by
       rcases List.mem_cons.1 hm with e | e
       ·exact absurd (by rw [← e]) hpi'
       ·exact e
      have ih := layK_step l (A.drop 1) k i dt hp.2 h0' hm' hk'
      simp only [layK, if_pos hz, Nat.add_sub_cancel]
      rw [if_neg (by omega), if_neg (by omega)]
      simp only [setL, List.map_cons]
      rw [if_neg hpi']
      rw [show (A.drop 1).getD k 0 = A.getD (k + 1) 0 by simp [List.getD, Nat.add_comm]] at ih
      simp only [setL] at ih
      rw [ih]
   ·have hz' : (p.2.1 == 0) = false := by simpa using hz
    simp only [freshN, List.filter_cons, hz'] at hk
    have hk' : (freshN l)[k]? = some i.toNat := by simpa [freshN] using hk
    have hm' : (i, 0, dt) ∈ l := by
     rcases List.mem_cons.1 hm with e | e
     ·rw [← e] at hz; exact absurd rfl hz
     ·exact e
    have hpi' : p.1 ≠ i := fun e => hne _ hm' e.symm
    have ih := layK_step l A k i dt hp.2 h0' hm' hk'
    simp only [layK, if_neg hz]
    simp only [setL, List.map_cons]
    rw [if_neg hpi']
    simp only [setL] at ih
    rw [ih]
theorem freshN_len (l : Pgs) : (freshN l).length ≤ l.length := by
 simp only [freshN, List.length_map]
 exact List.length_filter_le ..
theorem freshN_mem {l : Pgs} {i : Nat} (h0 : ∀ p ∈ l, 0 ≤ p.1) : i ∈ freshN l ↔ ∃ dt, ((i : Int), 0, dt) ∈ l := by
 simp only [freshN, List.mem_map, List.mem_filter, beq_iff_eq]
 constructor
 ·rintro ⟨p, ⟨hp, e⟩, rfl⟩
  refine ⟨p.2.2, ?_⟩
  have := h0 p hp
  rw [show ((p.1.toNat : Nat) : Int) = p.1 by omega, ← e]
  exact hp
 ·rintro ⟨dt, h⟩
  exact ⟨_, ⟨h, rfl⟩, by simp⟩
def layP (l : Pgs) (A : List Nat) : Pgs := layK l A (freshN l).length
theorem layP_keys (l : Pgs) (A : List Nat) : (layP l A).map (·.1) = l.map (·.1) := layK_keys _ _ _
theorem layP_rise {l : Pgs} (h : Rise l) (A : List Nat) : Rise (layP l A) := h.keys (layP_keys l A)
theorem layP_length (l : Pgs) (A : List Nat) : (layP l A).length = l.length := by
 have := congrArg List.length (layP_keys l A)
 simpa using this
theorem layP_mem : ∀ {l : Pgs} {A : List Nat} {k : Nat} {q : Int × Nat × List Nat}, q ∈ layK l A k → (q ∈ l) ∨ (((q.1, 0, q.2.2) ∈ l) ∧ (q.2.1 ∈ A ∨ q.2.1 = 0))
 | [], _, _, _, h => by cases h
 | p :: l, A, k, q, h => by
   simp only [layK] at h
   split at h
   ·rename_i hz
    rcases List.mem_cons.1 h with e | e
    ·split at e
     ·exact .inl (by rw [e]; exact List.mem_cons_self ..)
     ·subst e
      refine .inr ⟨?_, ?_⟩
      ·rw [show ((p.1, A.getD 0 0, p.2.2) : Int × Nat × List Nat).1 = p.1 from rfl]
       simp only
       rw [← hz]
       exact List.mem_cons_self ..
      ·cases A with
       | nil => exact .inr rfl
       | cons a r => exact .inl (by simp)
    ·rcases layP_mem e with e | ⟨e1, e2⟩
     ·exact .inl (List.mem_cons_of_mem _ e)
     ·refine .inr ⟨List.mem_cons_of_mem _ e1, ?_⟩
      rcases e2 with e2 | e2
      ·exact .inl (List.mem_of_mem_drop e2)
      ·exact .inr e2
   ·rcases List.mem_cons.1 h with e | e
    ·exact .inl (by rw [e]; exact List.mem_cons_self ..)
    ·rcases layP_mem e with e | ⟨e1, e2⟩
     ·exact .inl (List.mem_cons_of_mem _ e)
     ·exact .inr ⟨List.mem_cons_of_mem _ e1, e2⟩
theorem layK_data : ∀ (l : Pgs) (A : List Nat) (k : Nat), (layK l A k).map (fun p => (p.1, p.2.2)) = l.map (fun p => (p.1, p.2.2))
 | [], _, _ => rfl
 | p :: l, A, k => by
   simp only [layK]
   split
   ·rw [List.map_cons, layK_data l]
    split <;> rfl
   ·rw [List.map_cons, layK_data l, List.map_cons]
theorem tabB_byte (l : Pgs) : ∀ z ∈ tabB l, z < 256 := by
 intro z hz
 obtain ⟨p, _, hz⟩ := List.mem_flatMap.1 hz
 rcases List.mem_append.1 hz with hz | hz
 ·exact num_byte _ z hz
 ·exact num_byte _ z hz
theorem tabB_len : ∀ (l : Pgs), (∀ p ∈ l, p.1.toNat < 16384 ∧ p.2.1 < 16384) → (tabB l).length ≤ 4 * l.length
 | [], _ => by simp [tabB]
 | p :: l, h => by
   have ih := tabB_len l (fun q hq => h q (List.mem_cons_of_mem _ hq))
   obtain ⟨h1, h2⟩ := h p (List.mem_cons_self ..)
   have e1 := num_len 1 _ h1
   have e2 := num_len 1 _ h2
   have e3 : tabB (p :: l) = (num p.1.toNat ++ num p.2.1) ++ tabB l := by simp [tabB]
   rw [e3]
   simp only [List.length_append, List.length_cons]
   omega
end Go.Proofs.YtlcglapcmdpkfaaGreat
