import Derived.Test.YtenjollhlgjjdaaGreatDoorGaa
import Derived.Test.YtenjollhlgjjdaaGreatDoorGax
/-     -/
set_option linter.unusedSimpArgs false
set_option linter.unusedVariables false
namespace Go.Proofs.YtenjollhlgjjdaaGreatDoor
open Go.RowKit Go.Lib
def Gd (d D : Nat) (l : List Vt) : Prop := ∀ x ∈ l, (∃ e, SmT e x) ∧ LfT D x ∧ (∃ e, NfT e x) ∧ sdB d x = true ∧ x.l.length ≤ 10000 ∧ x.s.size ≤ 4096
def ApC (p : Pr) : Prop := ∀ (d D : Nat) (l : List Vt) (g o c : Nat) (w : World) (S : Nat → Prop), 2 * D + 1 ≤ d → 1 ≤ D → VsAt w S (D + 1) l (.slice (some ⟨g, o, none⟩) l.length c) → (∀ b, S b → b < w.heap.size) → l.length = p.ks.length → Gd d D l → Cz 20 #[.string p.name, .slice (some ⟨g, o, none⟩) l.length c] w (fun e w' => DcP (apR (dsB (D + 1)) (fitB l p.ks) (p.cy d l)) (D + 2) w e w')
structure FrC (p : Pr) (ls : List ByteArray) (dss : List (List Int)) : Prop where
 kn : KnC p.name ls
 len : ls.length = dss.length
 my : ∀ (j : Nat) (s : ByteArray) (ds : List Int), ls[j]? = some s → dss[j]? = some ds → MyC s ds
 le : ls.length ≤ p.ks.length
 few : p.ks.length ≤ 3
 dg : ∀ (j : Nat) (k : Int), p.ks[j]? = some k → (∃ ds, dss[j]? = some ds ∧ DgC ds k) ∨ dss[j]? = none ∧ k = 63
theorem may_fit : ∀ (l : List Vt) (dss : List (List Int)) (ks : List Int), l.length = ks.length → (∀ x ∈ l, x.k = 1 ∨ x.k = 2 ∨ x.k = 3 ∨ x.k = 4 ∨ x.k = 5 ∨ x.k = 6) → (∀ (j : Nat) (k : Int), ks[j]? = some k → (∃ ds, dss[j]? = some ds ∧ DgC ds k) ∨ dss[j]? = none ∧ k = 63) → mayB l dss = fitB l ks
 | [], _, _, _, _, _ => by unfold mayB fitB; rfl
 | _ :: _, _, [], h, _, _ => by simp at h
 | x :: l, [], k :: ks, h, hk, hd => by
   have hn : fitB (x :: l) (k :: ks) = true := by
    rw [fitB_eq _ _ h]
    intro j y k' hy hk'
    rcases hd j k' hk' with ⟨ds, e, _⟩ | ⟨_, rfl⟩
    ·simp at e
    ·exact fb_63' (hk y (List.mem_of_getElem? hy))
   rw [hn]
   unfold mayB
   rfl
 | x :: l, ds :: dss, k :: ks, h, hk, hd => by
   unfold mayB fitB
   have h0 : ds.any (· == x.k) = fb x k := by
    rcases hd 0 k rfl with ⟨es, e, hg⟩ | ⟨e, _⟩
    ·simp only [List.getElem?_cons_zero, Option.some.injEq] at e
     subst e
     exact hg x (hk x (by simp))
    ·simp at e
   rw [h0, may_fit l dss ks (by simpa using h) (fun y hy => hk y (List.mem_cons_of_mem _ hy)) (fun j k' hj => by
    have := hd (j + 1) k' (by simpa using hj)
    simpa using this)]
theorem FrC.fit {p : Pr} {ls : List ByteArray} {dss : List (List Int)} (h : FrC p ls dss) {d D : Nat} {l : List Vt} (hg : Gd d D l) (hl : l.length = p.ks.length) : mayB l dss = fitB l p.ks := may_fit l dss p.ks hl (fun x hx => sd_kinds (hg x hx).2.2.2.1) h.dg
theorem fr_0 : FrC q0 [] [] := ⟨kn_0, by decide, (fun j s ds h1 h2 => by simp at h1), by simp [q0], by simp [q0], (fun j k h => match j, h with | 0, h => .inr ⟨rfl, by simp [q0] at h; exact h.symm⟩ | (_ + 1), h => by simp [q0] at h)⟩
theorem fr_1 : FrC q1 [] [] := ⟨kn_1, by decide, (fun j s ds h1 h2 => by simp at h1), by simp [q1], by simp [q1], (fun j k h => match j, h with | 0, h => .inr ⟨rfl, by simp [q1] at h; exact h.symm⟩ | (_ + 1), h => by simp [q1] at h)⟩
theorem fr_2 : FrC q2 [] [] := ⟨kn_2, by decide, (fun j s ds h1 h2 => by simp at h1), by simp [q2], by simp [q2], (fun j k h => match j, h with | 0, h => .inr ⟨rfl, by simp [q2] at h; exact h.symm⟩ | 1, h => .inr ⟨rfl, by simp [q2] at h; exact h.symm⟩ | (_ + 2), h => by simp [q2] at h)⟩
theorem fr_3 : FrC q3 [] [] := ⟨kn_3, by decide, (fun j s ds h1 h2 => by simp at h1), by simp [q3], by simp [q3], (fun j k h => match j, h with | 0, h => .inr ⟨rfl, by simp [q3] at h; exact h.symm⟩ | 1, h => .inr ⟨rfl, by simp [q3] at h; exact h.symm⟩ | (_ + 2), h => by simp [q3] at h)⟩
theorem fr_4 : FrC q4 [] [] := ⟨kn_4, by decide, (fun j s ds h1 h2 => by simp at h1), by simp [q4], by simp [q4], (fun j k h => match j, h with | 0, h => .inr ⟨rfl, by simp [q4] at h; exact h.symm⟩ | 1, h => .inr ⟨rfl, by simp [q4] at h; exact h.symm⟩ | 2, h => .inr ⟨rfl, by simp [q4] at h; exact h.symm⟩ | (_ + 3), h => by simp [q4] at h)⟩
theorem fr_5 : FrC q5 [] [] := ⟨kn_5, by decide, (fun j s ds h1 h2 => by simp at h1), by simp [q5], by simp [q5], (fun j k h => match j, h with | 0, h => .inr ⟨rfl, by simp [q5] at h; exact h.symm⟩ | 1, h => .inr ⟨rfl, by simp [q5] at h; exact h.symm⟩ | (_ + 2), h => by simp [q5] at h)⟩
theorem fr_6 : FrC q6 [] [] := ⟨kn_6, by decide, (fun j s ds h1 h2 => by simp at h1), by simp [q6], by simp [q6], (fun j k h => match j, h with | 0, h => .inr ⟨rfl, by simp [q6] at h; exact h.symm⟩ | 1, h => .inr ⟨rfl, by simp [q6] at h; exact h.symm⟩ | (_ + 2), h => by simp [q6] at h)⟩
theorem fr_7 : FrC q7 [⟨#[49]⟩, ⟨#[49]⟩] [[1], [1]] := ⟨kn_7, by decide, (fun j s ds h1 h2 => match j, h1, h2 with | 0, h1, h2 => by simp at h1 h2; obtain rfl := h1; obtain rfl := h2; exact may_1 | 1, h1, h2 => by simp at h1 h2; obtain rfl := h1; obtain rfl := h2; exact may_1 | (_ + 2), h1, _ => by simp at h1), by simp [q7], by simp [q7], (fun j k h => match j, h with | 0, h => .inl ⟨_, rfl, by simp [q7] at h; obtain rfl := h; exact dg_1⟩ | 1, h => .inl ⟨_, rfl, by simp [q7] at h; obtain rfl := h; exact dg_1⟩ | (_ + 2), h => by simp [q7] at h)⟩
theorem fr_8 : FrC q8 [⟨#[49]⟩, ⟨#[49]⟩] [[1], [1]] := ⟨kn_8, by decide, (fun j s ds h1 h2 => match j, h1, h2 with | 0, h1, h2 => by simp at h1 h2; obtain rfl := h1; obtain rfl := h2; exact may_1 | 1, h1, h2 => by simp at h1 h2; obtain rfl := h1; obtain rfl := h2; exact may_1 | (_ + 2), h1, _ => by simp at h1), by simp [q8], by simp [q8], (fun j k h => match j, h with | 0, h => .inl ⟨_, rfl, by simp [q8] at h; obtain rfl := h; exact dg_1⟩ | 1, h => .inl ⟨_, rfl, by simp [q8] at h; obtain rfl := h; exact dg_1⟩ | (_ + 2), h => by simp [q8] at h)⟩
theorem fr_9 : FrC q9 [⟨#[49]⟩, ⟨#[49]⟩] [[1], [1]] := ⟨kn_9, by decide, (fun j s ds h1 h2 => match j, h1, h2 with | 0, h1, h2 => by simp at h1 h2; obtain rfl := h1; obtain rfl := h2; exact may_1 | 1, h1, h2 => by simp at h1 h2; obtain rfl := h1; obtain rfl := h2; exact may_1 | (_ + 2), h1, _ => by simp at h1), by simp [q9], by simp [q9], (fun j k h => match j, h with | 0, h => .inl ⟨_, rfl, by simp [q9] at h; obtain rfl := h; exact dg_1⟩ | 1, h => .inl ⟨_, rfl, by simp [q9] at h; obtain rfl := h; exact dg_1⟩ | (_ + 2), h => by simp [q9] at h)⟩
theorem fr_10 : FrC q10 [⟨#[49]⟩, ⟨#[49]⟩] [[1], [1]] := ⟨kn_10, by decide, (fun j s ds h1 h2 => match j, h1, h2 with | 0, h1, h2 => by simp at h1 h2; obtain rfl := h1; obtain rfl := h2; exact may_1 | 1, h1, h2 => by simp at h1 h2; obtain rfl := h1; obtain rfl := h2; exact may_1 | (_ + 2), h1, _ => by simp at h1), by simp [q10], by simp [q10], (fun j k h => match j, h with | 0, h => .inl ⟨_, rfl, by simp [q10] at h; obtain rfl := h; exact dg_1⟩ | 1, h => .inl ⟨_, rfl, by simp [q10] at h; obtain rfl := h; exact dg_1⟩ | (_ + 2), h => by simp [q10] at h)⟩
theorem fr_11 : FrC q11 [⟨#[49]⟩, ⟨#[49]⟩] [[1], [1]] := ⟨kn_11, by decide, (fun j s ds h1 h2 => match j, h1, h2 with | 0, h1, h2 => by simp at h1 h2; obtain rfl := h1; obtain rfl := h2; exact may_1 | 1, h1, h2 => by simp at h1 h2; obtain rfl := h1; obtain rfl := h2; exact may_1 | (_ + 2), h1, _ => by simp at h1), by simp [q11], by simp [q11], (fun j k h => match j, h with | 0, h => .inl ⟨_, rfl, by simp [q11] at h; obtain rfl := h; exact dg_1⟩ | 1, h => .inl ⟨_, rfl, by simp [q11] at h; obtain rfl := h; exact dg_1⟩ | (_ + 2), h => by simp [q11] at h)⟩
theorem fr_12 : FrC q12 [⟨#[49]⟩] [[1]] := ⟨kn_12, by decide, (fun j s ds h1 h2 => match j, h1, h2 with | 0, h1, h2 => by simp at h1 h2; obtain rfl := h1; obtain rfl := h2; exact may_1 | (_ + 1), h1, _ => by simp at h1), by simp [q12], by simp [q12], (fun j k h => match j, h with | 0, h => .inl ⟨_, rfl, by simp [q12] at h; obtain rfl := h; exact dg_1⟩ | (_ + 1), h => by simp [q12] at h)⟩
theorem fr_13 : FrC q13 [⟨#[49]⟩] [[1]] := ⟨kn_13, by decide, (fun j s ds h1 h2 => match j, h1, h2 with | 0, h1, h2 => by simp at h1 h2; obtain rfl := h1; obtain rfl := h2; exact may_1 | (_ + 1), h1, _ => by simp at h1), by simp [q13], by simp [q13], (fun j k h => match j, h with | 0, h => .inl ⟨_, rfl, by simp [q13] at h; obtain rfl := h; exact dg_1⟩ | (_ + 1), h => by simp [q13] at h)⟩
theorem fr_14 : FrC q14 [⟨#[49]⟩, ⟨#[49]⟩] [[1], [1]] := ⟨kn_14, by decide, (fun j s ds h1 h2 => match j, h1, h2 with | 0, h1, h2 => by simp at h1 h2; obtain rfl := h1; obtain rfl := h2; exact may_1 | 1, h1, h2 => by simp at h1 h2; obtain rfl := h1; obtain rfl := h2; exact may_1 | (_ + 2), h1, _ => by simp at h1), by simp [q14], by simp [q14], (fun j k h => match j, h with | 0, h => .inl ⟨_, rfl, by simp [q14] at h; obtain rfl := h; exact dg_1⟩ | 1, h => .inl ⟨_, rfl, by simp [q14] at h; obtain rfl := h; exact dg_1⟩ | (_ + 2), h => by simp [q14] at h)⟩
theorem fr_15 : FrC q15 [⟨#[49]⟩, ⟨#[49]⟩] [[1], [1]] := ⟨kn_15, by decide, (fun j s ds h1 h2 => match j, h1, h2 with | 0, h1, h2 => by simp at h1 h2; obtain rfl := h1; obtain rfl := h2; exact may_1 | 1, h1, h2 => by simp at h1 h2; obtain rfl := h1; obtain rfl := h2; exact may_1 | (_ + 2), h1, _ => by simp at h1), by simp [q15], by simp [q15], (fun j k h => match j, h with | 0, h => .inl ⟨_, rfl, by simp [q15] at h; obtain rfl := h; exact dg_1⟩ | 1, h => .inl ⟨_, rfl, by simp [q15] at h; obtain rfl := h; exact dg_1⟩ | (_ + 2), h => by simp [q15] at h)⟩
theorem fr_16 : FrC q16 [⟨#[49]⟩, ⟨#[49]⟩] [[1], [1]] := ⟨kn_16, by decide, (fun j s ds h1 h2 => match j, h1, h2 with | 0, h1, h2 => by simp at h1 h2; obtain rfl := h1; obtain rfl := h2; exact may_1 | 1, h1, h2 => by simp at h1 h2; obtain rfl := h1; obtain rfl := h2; exact may_1 | (_ + 2), h1, _ => by simp at h1), by simp [q16], by simp [q16], (fun j k h => match j, h with | 0, h => .inl ⟨_, rfl, by simp [q16] at h; obtain rfl := h; exact dg_1⟩ | 1, h => .inl ⟨_, rfl, by simp [q16] at h; obtain rfl := h; exact dg_1⟩ | (_ + 2), h => by simp [q16] at h)⟩
theorem fr_17 : FrC q17 [⟨#[49]⟩, ⟨#[49]⟩] [[1], [1]] := ⟨kn_17, by decide, (fun j s ds h1 h2 => match j, h1, h2 with | 0, h1, h2 => by simp at h1 h2; obtain rfl := h1; obtain rfl := h2; exact may_1 | 1, h1, h2 => by simp at h1 h2; obtain rfl := h1; obtain rfl := h2; exact may_1 | (_ + 2), h1, _ => by simp at h1), by simp [q17], by simp [q17], (fun j k h => match j, h with | 0, h => .inl ⟨_, rfl, by simp [q17] at h; obtain rfl := h; exact dg_1⟩ | 1, h => .inl ⟨_, rfl, by simp [q17] at h; obtain rfl := h; exact dg_1⟩ | (_ + 2), h => by simp [q17] at h)⟩
theorem fr_18 : FrC q18 [] [] := ⟨kn_18, by decide, (fun j s ds h1 h2 => by simp at h1), by simp [q18], by simp [q18], (fun j k h => match j, h with | 0, h => .inr ⟨rfl, by simp [q18] at h; exact h.symm⟩ | 1, h => .inr ⟨rfl, by simp [q18] at h; exact h.symm⟩ | (_ + 2), h => by simp [q18] at h)⟩
theorem fr_19 : FrC q19 [⟨#[51]⟩, ⟨#[51]⟩] [[3], [3]] := ⟨kn_19, by decide, (fun j s ds h1 h2 => match j, h1, h2 with | 0, h1, h2 => by simp at h1 h2; obtain rfl := h1; obtain rfl := h2; exact may_3 | 1, h1, h2 => by simp at h1 h2; obtain rfl := h1; obtain rfl := h2; exact may_3 | (_ + 2), h1, _ => by simp at h1), by simp [q19], by simp [q19], (fun j k h => match j, h with | 0, h => .inl ⟨_, rfl, by simp [q19] at h; obtain rfl := h; exact dg_3⟩ | 1, h => .inl ⟨_, rfl, by simp [q19] at h; obtain rfl := h; exact dg_3⟩ | (_ + 2), h => by simp [q19] at h)⟩
theorem fr_20 : FrC q20 [⟨#[51]⟩, ⟨#[51]⟩] [[3], [3]] := ⟨kn_20, by decide, (fun j s ds h1 h2 => match j, h1, h2 with | 0, h1, h2 => by simp at h1 h2; obtain rfl := h1; obtain rfl := h2; exact may_3 | 1, h1, h2 => by simp at h1 h2; obtain rfl := h1; obtain rfl := h2; exact may_3 | (_ + 2), h1, _ => by simp at h1), by simp [q20], by simp [q20], (fun j k h => match j, h with | 0, h => .inl ⟨_, rfl, by simp [q20] at h; obtain rfl := h; exact dg_3⟩ | 1, h => .inl ⟨_, rfl, by simp [q20] at h; obtain rfl := h; exact dg_3⟩ | (_ + 2), h => by simp [q20] at h)⟩
theorem fr_21 : FrC q21 [⟨#[51]⟩] [[3]] := ⟨kn_21, by decide, (fun j s ds h1 h2 => match j, h1, h2 with | 0, h1, h2 => by simp at h1 h2; obtain rfl := h1; obtain rfl := h2; exact may_3 | (_ + 1), h1, _ => by simp at h1), by simp [q21], by simp [q21], (fun j k h => match j, h with | 0, h => .inl ⟨_, rfl, by simp [q21] at h; obtain rfl := h; exact dg_3⟩ | (_ + 1), h => by simp [q21] at h)⟩
theorem fr_22 : FrC q22 [] [] := ⟨kn_22, by decide, (fun j s ds h1 h2 => by simp at h1), by simp [q22], by simp [q22], (fun j k h => match j, h with | 0, h => .inr ⟨rfl, by simp [q22] at h; exact h.symm⟩ | (_ + 1), h => by simp [q22] at h)⟩
theorem fr_23 : FrC q23 [] [] := ⟨kn_23, by decide, (fun j s ds h1 h2 => by simp at h1), by simp [q23], by simp [q23], (fun j k h => match j, h with | 0, h => .inr ⟨rfl, by simp [q23] at h; exact h.symm⟩ | (_ + 1), h => by simp [q23] at h)⟩
theorem fr_24 : FrC q24 [] [] := ⟨kn_24, by decide, (fun j s ds h1 h2 => by simp at h1), by simp [q24], by simp [q24], (fun j k h => match j, h with | 0, h => .inr ⟨rfl, by simp [q24] at h; exact h.symm⟩ | (_ + 1), h => by simp [q24] at h)⟩
theorem fr_25 : FrC q25 [] [] := ⟨kn_25, by decide, (fun j s ds h1 h2 => by simp at h1), by simp [q25], by simp [q25], (fun j k h => match j, h with | 0, h => .inr ⟨rfl, by simp [q25] at h; exact h.symm⟩ | (_ + 1), h => by simp [q25] at h)⟩
theorem fr_26 : FrC q26 [] [] := ⟨kn_26, by decide, (fun j s ds h1 h2 => by simp at h1), by simp [q26], by simp [q26], (fun j k h => match j, h with | 0, h => .inr ⟨rfl, by simp [q26] at h; exact h.symm⟩ | (_ + 1), h => by simp [q26] at h)⟩
theorem fr_27 : FrC q27 [] [] := ⟨kn_27, by decide, (fun j s ds h1 h2 => by simp at h1), by simp [q27], by simp [q27], (fun j k h => match j, h with | 0, h => .inr ⟨rfl, by simp [q27] at h; exact h.symm⟩ | (_ + 1), h => by simp [q27] at h)⟩
theorem fr_28 : FrC q28 [⟨#[50, 52, 53]⟩] [[2, 4, 5]] := ⟨kn_28, by decide, (fun j s ds h1 h2 => match j, h1, h2 with | 0, h1, h2 => by simp at h1 h2; obtain rfl := h1; obtain rfl := h2; exact may_245 | (_ + 1), h1, _ => by simp at h1), by simp [q28], by simp [q28], (fun j k h => match j, h with | 0, h => .inl ⟨_, rfl, by simp [q28] at h; obtain rfl := h; exact dg_245⟩ | (_ + 1), h => by simp [q28] at h)⟩
theorem fr_29 : FrC q29 [⟨#[50, 52, 53]⟩, ⟨#[50, 52, 53]⟩] [[2, 4, 5], [2, 4, 5]] := ⟨kn_29, by decide, (fun j s ds h1 h2 => match j, h1, h2 with | 0, h1, h2 => by simp at h1 h2; obtain rfl := h1; obtain rfl := h2; exact may_245 | 1, h1, h2 => by simp at h1 h2; obtain rfl := h1; obtain rfl := h2; exact may_245 | (_ + 2), h1, _ => by simp at h1), by simp [q29], by simp [q29], (fun j k h => match j, h with | 0, h => .inl ⟨_, rfl, by simp [q29] at h; obtain rfl := h; exact dg_245⟩ | 1, h => .inl ⟨_, rfl, by simp [q29] at h; obtain rfl := h; exact dg_245⟩ | (_ + 2), h => by simp [q29] at h)⟩
theorem fr_30 : FrC q30 [⟨#[49]⟩, ⟨#[50, 52]⟩] [[1], [2, 4]] := ⟨kn_30, by decide, (fun j s ds h1 h2 => match j, h1, h2 with | 0, h1, h2 => by simp at h1 h2; obtain rfl := h1; obtain rfl := h2; exact may_1 | 1, h1, h2 => by simp at h1 h2; obtain rfl := h1; obtain rfl := h2; exact may_24 | (_ + 2), h1, _ => by simp at h1), by simp [q30], by simp [q30], (fun j k h => match j, h with | 0, h => .inl ⟨_, rfl, by simp [q30] at h; obtain rfl := h; exact dg_1⟩ | 1, h => .inl ⟨_, rfl, by simp [q30] at h; obtain rfl := h; exact dg_24⟩ | (_ + 2), h => by simp [q30] at h)⟩
theorem fr_31 : FrC q31 [⟨#[49]⟩, ⟨#[49]⟩, ⟨#[50, 52]⟩] [[1], [1], [2, 4]] := ⟨kn_31, by decide, (fun j s ds h1 h2 => match j, h1, h2 with | 0, h1, h2 => by simp at h1 h2; obtain rfl := h1; obtain rfl := h2; exact may_1 | 1, h1, h2 => by simp at h1 h2; obtain rfl := h1; obtain rfl := h2; exact may_1 | 2, h1, h2 => by simp at h1 h2; obtain rfl := h1; obtain rfl := h2; exact may_24 | (_ + 3), h1, _ => by simp at h1), by simp [q31], by simp [q31], (fun j k h => match j, h with | 0, h => .inl ⟨_, rfl, by simp [q31] at h; obtain rfl := h; exact dg_1⟩ | 1, h => .inl ⟨_, rfl, by simp [q31] at h; obtain rfl := h; exact dg_1⟩ | 2, h => .inl ⟨_, rfl, by simp [q31] at h; obtain rfl := h; exact dg_24⟩ | (_ + 3), h => by simp [q31] at h)⟩
theorem fr_32 : FrC q32 [] [] := ⟨kn_32, by decide, (fun j s ds h1 h2 => by simp at h1), by simp [q32], by simp [q32], (fun j k h => match j, h with | 0, h => .inr ⟨rfl, by simp [q32] at h; exact h.symm⟩ | (_ + 1), h => by simp [q32] at h)⟩
theorem fr_33 : FrC q33 [] [] := ⟨kn_33, by decide, (fun j s ds h1 h2 => by simp at h1), by simp [q33], by simp [q33], (fun j k h => match j, h with | 0, h => .inr ⟨rfl, by simp [q33] at h; exact h.symm⟩ | 1, h => .inr ⟨rfl, by simp [q33] at h; exact h.symm⟩ | (_ + 2), h => by simp [q33] at h)⟩
theorem fr_34 : FrC q34 [⟨#[52]⟩] [[4]] := ⟨kn_34, by decide, (fun j s ds h1 h2 => match j, h1, h2 with | 0, h1, h2 => by simp at h1 h2; obtain rfl := h1; obtain rfl := h2; exact may_4 | (_ + 1), h1, _ => by simp at h1), by simp [q34], by simp [q34], (fun j k h => match j, h with | 0, h => .inl ⟨_, rfl, by simp [q34] at h; obtain rfl := h; exact dg_4⟩ | (_ + 1), h => by simp [q34] at h)⟩
theorem fr_35 : FrC q35 [⟨#[50, 52]⟩] [[2, 4]] := ⟨kn_35, by decide, (fun j s ds h1 h2 => match j, h1, h2 with | 0, h1, h2 => by simp at h1 h2; obtain rfl := h1; obtain rfl := h2; exact may_24 | (_ + 1), h1, _ => by simp at h1), by simp [q35], by simp [q35], (fun j k h => match j, h with | 0, h => .inl ⟨_, rfl, by simp [q35] at h; obtain rfl := h; exact dg_24⟩ | (_ + 1), h => by simp [q35] at h)⟩
theorem fr_36 : FrC q36 [⟨#[49, 50, 51, 52, 53, 54, 55, 56]⟩, ⟨#[53]⟩] [[1, 2, 3, 4, 5, 6, 7, 8], [5]] := ⟨kn_36, by decide, (fun j s ds h1 h2 => match j, h1, h2 with | 0, h1, h2 => by simp at h1 h2; obtain rfl := h1; obtain rfl := h2; exact may_12345678 | 1, h1, h2 => by simp at h1 h2; obtain rfl := h1; obtain rfl := h2; exact may_5 | (_ + 2), h1, _ => by simp at h1), by simp [q36], by simp [q36], (fun j k h => match j, h with | 0, h => .inl ⟨_, rfl, by simp [q36] at h; obtain rfl := h; exact dg_all⟩ | 1, h => .inl ⟨_, rfl, by simp [q36] at h; obtain rfl := h; exact dg_5⟩ | (_ + 2), h => by simp [q36] at h)⟩
theorem fr_37 : FrC q37 [⟨#[53]⟩, ⟨#[53]⟩] [[5], [5]] := ⟨kn_37, by decide, (fun j s ds h1 h2 => match j, h1, h2 with | 0, h1, h2 => by simp at h1 h2; obtain rfl := h1; obtain rfl := h2; exact may_5 | 1, h1, h2 => by simp at h1 h2; obtain rfl := h1; obtain rfl := h2; exact may_5 | (_ + 2), h1, _ => by simp at h1), by simp [q37], by simp [q37], (fun j k h => match j, h with | 0, h => .inl ⟨_, rfl, by simp [q37] at h; obtain rfl := h; exact dg_5⟩ | 1, h => .inl ⟨_, rfl, by simp [q37] at h; obtain rfl := h; exact dg_5⟩ | (_ + 2), h => by simp [q37] at h)⟩
theorem fr_38 : FrC q38 [] [] := ⟨kn_38, by decide, (fun j s ds h1 h2 => by simp at h1), by simp [q38], by simp [q38], (fun j k h => match j, h with | 0, h => .inr ⟨rfl, by simp [q38] at h; exact h.symm⟩ | (_ + 1), h => by simp [q38] at h)⟩
theorem fr_39 : FrC q39 [⟨#[50]⟩] [[2]] := ⟨kn_39, by decide, (fun j s ds h1 h2 => match j, h1, h2 with | 0, h1, h2 => by simp at h1 h2; obtain rfl := h1; obtain rfl := h2; exact may_2 | (_ + 1), h1, _ => by simp at h1), by simp [q39], by simp [q39], (fun j k h => match j, h with | 0, h => .inl ⟨_, rfl, by simp [q39] at h; obtain rfl := h; exact dg_2⟩ | (_ + 1), h => by simp [q39] at h)⟩
theorem DcP.up {R : Except Int (List Vt)} {D D' : Nat} {w w' : World} {e : Ending} (h : DcP R D w e w') (hD : D ≤ D') : DcP R D' w e w' := by
 cases R with
 | error n => exact h
 | ok ls =>
   obtain ⟨a, c, he, h⟩ := h
   obtain ⟨S, h1⟩ := h.out.1
   exact ⟨a, c, he, ⟨⟨S, h1.step (fun _ g => g) (fun _ _ _ g => g) hD⟩, h.out.2⟩⟩
def MnD (nm : ByteArray) : Prop := ∀ (v : Value), (∃ a n c, v = .slice a n c) → ∀ w, Cz 39 #[.string nm, v] w fun e w' => e = .returned (.tuple #[.slice none 0 0, .bool false]) ∧ w' = w
theorem sm_few {rs : List Vt} (h : rs.length ≤ 3 ∧ ∀ x ∈ rs, ∃ e, SmT e x) : rs.length ≤ 10003 ∧ ∀ x ∈ rs, ∃ e, SmT e x := ⟨by omega, h.2⟩
theorem apc_nofit {p : Pr} {ls : List ByteArray} {dss : List (List Int)} (hf : FrC p ls dss) {d D : Nat} {l : List Vt} {g o c : Nat} {w : World} {S : Nat → Prop} (hl : VsAt w S (D + 1) l (.slice (some ⟨g, o, none⟩) l.length c)) (hlen : l.length = p.ks.length) (hg : Gd d D l) (hff : fitB l p.ks = false) (R : Except Int (List Vt)) : Cz 20 #[.string p.name, .slice (some ⟨g, o, none⟩) l.length c] w (fun e w' => DcP (apR (dsB (D + 1)) (fitB l p.ks) R) (D + 2) w e w') := by
 have := rapply_any (nm := p.name) (R := .error 17) g o c (D + 1) hl hf.kn hf.len hf.my (by rw [hlen]; exact hf.le) (Nat.le_trans hf.le hf.few) (by rw [hlen]; exact hf.few) (fun rs h => by cases h) (fun h => by rw [hf.fit hg hlen, hff] at h; cases h)
 rw [hf.fit hg hlen] at this
 rw [ap_17 hff] at this ⊢
 exact this
theorem apc_rows {p : Pr} {ls : List ByteArray} {dss : List (List Int)} (hf : FrC p ls dss) (hna : (p.name.toList == [97, 112, 112, 101, 110, 100]) = false) (hmn : MnD p.name) (hkq : KqC p.name 0)
  (HR : ∀ (d D : Nat) (l : List Vt) (g o c : Nat) (w : World) (S : Nat → Prop), 2 * D + 1 ≤ d → 1 ≤ D → VsAt w S (D + 1) l (.slice (some ⟨g, o, none⟩) l.length c) → (∀ b, S b → b < w.heap.size) → l.length = p.ks.length → Gd d D l → fitB l p.ks = true → Cz 42 #[.string p.name, .slice (some ⟨g, o, none⟩) l.length c] w (fun e w' => DcP (p.cy d l) (D + 2) w e w'))
  (hsm : ∀ (d D : Nat) (l : List Vt) (rs : List Vt), 2 * D + 1 ≤ d → 1 ≤ D → l.length = p.ks.length → Gd d D l → fitB l p.ks = true → p.cy d l = .ok rs → rs.length ≤ 10003 ∧ ∀ x ∈ rs, ∃ e, SmT e x) : ApC p := by
 intro d D l g o c w S hd hD hl hS hlen hg
 by_cases hfit : fitB l p.ks = true
 ·have hN : ∀ W, Oz w W → Cz 39 #[.string p.name, .slice (some ⟨g, o, none⟩) l.length c] W fun e w' => e = .returned (.tuple #[.slice none 0 0, .bool false]) ∧ w' = W := fun W q => hmn _ ⟨_, _, _, rfl⟩ W
  have hW : ∀ W, Oz w W → Cz 42 #[.string p.name, .slice (some ⟨g, o, none⟩) l.length c] W (fun e w' => DcP (p.cy d l) (D + 2) W e w') := fun W q => HR d D l g o c W S hd hD (hl.only q) (fun b hb => Nat.lt_of_lt_of_le (hS b hb) q.size) hlen hg hfit
  have hs := fun rs h => hsm d D l rs hd hD hlen hg hfit h
  rw [← hf.fit hg hlen]
  exact rapply_any g o c (D + 1) hl hf.kn hf.len hf.my (by rw [hlen]; exact hf.le) (Nat.le_trans hf.le hf.few) (by rw [hlen]; exact hf.few) hs (fun _ => .inl ⟨hna, .inr ⟨hN, .inl ⟨hkq, hW⟩⟩⟩)
 ·exact apc_nofit hf hl hlen hg (by simpa using hfit) _
theorem apc_mv {p : Pr} {ls : List ByteArray} {dss : List (List Int)} (hf : FrC p ls dss) (hna : (p.name.toList == [97, 112, 112, 101, 110, 100]) = false) (ps : List Int) (hcy : ∀ d l, p.cy d l = .ok (lsR ps l)) (h3 : ps.length ≤ 3) (hr : ∀ k ∈ ps, 0 ≤ k ∧ k < (p.ks.length : Int))
  (HM : ∀ (D : Nat) (l : List Vt) (g o c : Nat) (w : World) (S : Nat → Prop), VsAt w S (D + 1) l (.slice (some ⟨g, o, none⟩) l.length c) → l.length = p.ks.length → Cz 39 #[.string p.name, .slice (some ⟨g, o, none⟩) l.length c] w fun e w' => ∃ a c, e = .returned (.tuple #[.slice a (lsR ps l).length c, .bool true]) ∧ Hid ((∃ S, VsAt w' S (D + 1) (lsR ps l) (.slice a (lsR ps l).length c)) ∧ Oz w w')) : ApC p := by
 intro d D l g o c w S hd hD hl hS hlen hg
 by_cases hfit : fitB l p.ks = true
 ·rw [← hf.fit hg hlen, hcy]
  refine rapply_any g o c (D + 1) hl hf.kn hf.len hf.my (by rw [hlen]; exact hf.le) (Nat.le_trans hf.le hf.few) (by rw [hlen]; exact hf.few) (fun qs h => ?_) (fun _ => .inl ⟨hna, .inl ⟨_, rfl, fun W q => (HM D l g o c W S (hl.only q) hlen).mono fun e w' h => ?_⟩⟩)
  ·cases h
   refine sm_few ⟨by unfold lsR; rw [List.length_map]; exact h3, fun x hx => ?_⟩
   unfold lsR at hx
   obtain ⟨k, hk, rfl⟩ := List.mem_map.1 hx
   have := hr k hk
   rw [List.getElem?_eq_getElem (show k.toNat < l.length by omega)]
   exact (hg _ (List.getElem_mem _)).1
  ·obtain ⟨a, c', he, h⟩ := h
   obtain ⟨S', h1⟩ := h.out.1
   exact ⟨a, c', he, ⟨S', h1.step (fun _ g => g) (fun _ _ _ g => g) (by omega)⟩, h.out.2⟩
 ·exact apc_nofit hf hl hlen hg (by simpa using hfit) _
theorem apc_kq {p : Pr} {ls : List ByteArray} {dss : List (List Int)} (hf : FrC p ls dss) (hna : (p.name.toList == [97, 112, 112, 101, 110, 100]) = false) (hmn : MnD p.name) (k m : Int) (hk0 : 0 < k) (hkq : KqC p.name k) (hks : p.ks = [63]) (hcy : ∀ d l, p.cy d l = .ok [boT (kd (l.getD 0 zT) == m)]) (hkm : ∀ x : Vt, (x.k = 1 ∨ x.k = 2 ∨ x.k = 3 ∨ x.k = 4 ∨ x.k = 5 ∨ x.k = 6) → (x.k == k) = (kd x == m)) : ApC p := by
 intro d D l g o c w S hd hD hl hS hlen hg
 have h1 : l.length = 1 := by rw [hlen, hks]; rfl
 obtain ⟨x, rfl⟩ : ∃ x, l = [x] := by
  cases l with
  | nil => cases h1
  | cons x l => cases l with
    | nil => exact ⟨x, rfl⟩
    | cons y l => simp at h1
 rw [← hf.fit hg hlen, hcy]
 have hx : w.cell? ⟨g, o, none⟩ = some (.int .i64 x.k) := by
  obtain ⟨_, _, e, _, hel⟩ := hl
  cases e
  obtain ⟨g', k', lx, e1, _, e2, _⟩ := hel 0 x rfl
  cases e1
  simpa using e2.1
 have e : boT (kd ([x].getD 0 zT) == m) = boT (x.k == k) := by rw [hkm x (sd_kinds (hg x (by simp)).2.2.2.1)]; rfl
 rw [e]
 exact rapply_any g o c (D + 1) hl hf.kn hf.len hf.my (by rw [hlen]; exact hf.le) (Nat.le_trans hf.le hf.few) (by simp) (fun qs h => by
  cases h
  exact sm_few ⟨by simp, fun z hz => by simp at hz; subst hz; exact bo_sm _⟩) (fun _ => .inl ⟨hna, .inr ⟨fun W q => hmn _ ⟨_, _, _, rfl⟩ W, .inr ⟨x.k, k, hk0, by omega, hx, by simp, hkq, rfl⟩⟩⟩)
theorem vs_v4 {w : World} {S : Nat → Prop} {D g o n c : Nat} {l : List Vt} (h : VsAt w S (D + 1) l (.slice (some ⟨g, o, none⟩) n c)) (j : Nat) {x : Vt} (hx : l[j]? = some x) : ∃ a2 c2, V4 w g (o + j * 4) x.k x.n x.s (.slice a2 x.l.length c2) ∧ VsAt w S D x.l (.slice a2 x.l.length c2) := by
 obtain ⟨_, _, e, _, hel⟩ := h
 cases e
 obtain ⟨g', k', lx, e1, _, e2, e3⟩ := hel j x hx
 cases e1
 obtain ⟨a2, c2, rfl⟩ := e3.form
 exact ⟨a2, c2, e2, e3⟩
theorem vs_new {W : World} {Q D : Nat} {S : Nat → Prop} {cs : Array Value} {rs : List Vt} (hb : W.heap[Q]? = some (.cells cs 38)) (h : ∀ (i : Nat) (x : Vt), rs[i]? = some x → ∃ lx, (cs[i * 4]? = some (.int .i64 x.k) ∧ cs[i * 4 + 1]? = some (.int .i64 x.n) ∧ cs[i * 4 + 2]? = some (.string x.s) ∧ cs[i * 4 + 3]? = some lx) ∧ VsAt W S D x.l lx) : VsAt W (fun b => S b ∨ b = Q) (D + 1) rs (.slice (some ⟨Q, 0, none⟩) rs.length rs.length) := by
 refine ⟨_, _, rfl, Nat.le_refl _, fun i x hx => ?_⟩
 obtain ⟨lx, ⟨h0, h1, h2, h3⟩, ht⟩ := h i x hx
 refine ⟨Q, 0, lx, rfl, .inr rfl, ?_, ht.step (fun _ g => .inl g) (fun _ _ _ g => g) (Nat.le_refl _)⟩
 rw [Nat.zero_add]
 exact ⟨(vblk_cells hb _).trans h0, (vblk_cells hb _).trans h1, (vblk_cells hb _).trans h2, (vblk_cells hb _).trans h3⟩
theorem len_1 {l : List Vt} (h : l.length = 1) : ∃ x, l = [x] := by
 match l, h with
 | [x], _ => exact ⟨x, rfl⟩
theorem len_2 {l : List Vt} (h : l.length = 2) : ∃ x y, l = [x, y] := by
 match l, h with
 | [x, y], _ => exact ⟨x, y, rfl⟩
theorem len_3 {l : List Vt} (h : l.length = 3) : ∃ x y z, l = [x, y, z] := by
 match l, h with
 | [x, y, z], _ => exact ⟨x, y, z, rfl⟩
theorem mv_only {w w' W : World} {o : Obj} (hW : W = w ∨ W = w.drew) (hw : w' = W.alloc o) : Oz w w' ∧ w'.heap[w.heap.size]? = some o := by
 rcases hW with rfl | rfl
 ·rw [hw]; exact ⟨(Only.refl _ _).alloc _, valloc_at _ _ _ rfl⟩
 ·rw [hw]; exact ⟨(Only.refl _ _).drew.alloc _, valloc_at _ _ _ rfl⟩
theorem apc_0 : ApC q0 := by
 refine apc_mv fr_0 (by kernel_rfl) [0, 0] (fun d l => rfl) (by decide) (by decide) (fun D l g o c w S hl hlen => ?_)
 obtain ⟨x, rfl⟩ := len_1 hlen
 obtain ⟨a0, c0, v0, t0⟩ := vs_v4 hl 0 (x := x) rfl
 have hls : lsR [0, 0] [x] = [x, x] := rfl
 rw [hls]
 refine (rmv_0 g o c x.k x.n x.s a0 x.l.length c0 w (by simpa using v0)).mono fun e w' h => ?_
 obtain ⟨he, W, hW, hw'⟩ := h
 obtain ⟨o1, hb⟩ := mv_only hW hw'
 refine ⟨_, _, he, ⟨_, vs_new (S := S) hb (fun i u hu => ?_)⟩, o1⟩
 match i, hu with
 | 0, hu => cases hu; exact ⟨_, ⟨rfl, rfl, rfl, rfl⟩, t0.only o1⟩
 | 1, hu => cases hu; exact ⟨_, ⟨rfl, rfl, rfl, rfl⟩, t0.only o1⟩
 | _ + 2, hu => simp at hu
theorem apc_1 : ApC q1 := by
 refine apc_mv fr_1 (by kernel_rfl) [] (fun d l => rfl) (by decide) (by decide) (fun D l g o c w S hl hlen => ?_)
 obtain ⟨x, rfl⟩ := len_1 hlen
 obtain ⟨a0, c0, v0, t0⟩ := vs_v4 hl 0 (x := x) rfl
 have hls : lsR [] [x] = [] := rfl
 rw [hls]
 refine (rmv_1 g o c x.k x.n x.s a0 x.l.length c0 w (by simpa using v0)).mono fun e w' h => ?_
 obtain ⟨he, rfl⟩ := h
 exact ⟨none, 0, he, ⟨S, none, 0, rfl, Nat.le_refl _, fun i x hx => by simp at hx⟩, Only.refl _ _⟩
theorem apc_2 : ApC q2 := by
 refine apc_mv fr_2 (by kernel_rfl) [1, 0] (fun d l => rfl) (by decide) (by decide) (fun D l g o c w S hl hlen => ?_)
 obtain ⟨x, y, rfl⟩ := len_2 hlen
 obtain ⟨a0, c0, v0, t0⟩ := vs_v4 hl 0 (x := x) rfl
 obtain ⟨a1, c1, v1, t1⟩ := vs_v4 hl 1 (x := y) rfl
 have hls : lsR [1, 0] [x, y] = [y, x] := rfl
 rw [hls]
 refine (rmv_2 g o c x.k x.n x.s a0 x.l.length c0 y.k y.n y.s a1 y.l.length c1 w (by simpa using v0) (by simpa using v1)).mono fun e w' h => ?_
 obtain ⟨he, W, hW, hw'⟩ := h
 obtain ⟨o1, hb⟩ := mv_only hW hw'
 refine ⟨_, _, he, ⟨_, vs_new (S := S) hb (fun i u hu => ?_)⟩, o1⟩
 match i, hu with
 | 0, hu => cases hu; exact ⟨_, ⟨rfl, rfl, rfl, rfl⟩, t1.only o1⟩
 | 1, hu => cases hu; exact ⟨_, ⟨rfl, rfl, rfl, rfl⟩, t0.only o1⟩
 | _ + 2, hu => simp at hu
theorem apc_3 : ApC q3 := by
 refine apc_mv fr_3 (by kernel_rfl) [0, 1, 0] (fun d l => rfl) (by decide) (by decide) (fun D l g o c w S hl hlen => ?_)
 obtain ⟨x, y, rfl⟩ := len_2 hlen
 obtain ⟨a0, c0, v0, t0⟩ := vs_v4 hl 0 (x := x) rfl
 obtain ⟨a1, c1, v1, t1⟩ := vs_v4 hl 1 (x := y) rfl
 have hls : lsR [0, 1, 0] [x, y] = [x, y, x] := rfl
 rw [hls]
 refine (rmv_3 g o c x.k x.n x.s a0 x.l.length c0 y.k y.n y.s a1 y.l.length c1 w (by simpa using v0) (by simpa using v1)).mono fun e w' h => ?_
 obtain ⟨he, W, hW, hw'⟩ := h
 obtain ⟨o1, hb⟩ := mv_only hW hw'
 refine ⟨_, _, he, ⟨_, vs_new (S := S) hb (fun i u hu => ?_)⟩, o1⟩
 match i, hu with
 | 0, hu => cases hu; exact ⟨_, ⟨rfl, rfl, rfl, rfl⟩, t0.only o1⟩
 | 1, hu => cases hu; exact ⟨_, ⟨rfl, rfl, rfl, rfl⟩, t1.only o1⟩
 | 2, hu => cases hu; exact ⟨_, ⟨rfl, rfl, rfl, rfl⟩, t0.only o1⟩
 | _ + 3, hu => simp at hu
theorem apc_4 : ApC q4 := by
 refine apc_mv fr_4 (by kernel_rfl) [1, 2, 0] (fun d l => rfl) (by decide) (by decide) (fun D l g o c w S hl hlen => ?_)
 obtain ⟨x, y, z, rfl⟩ := len_3 hlen
 obtain ⟨a0, c0, v0, t0⟩ := vs_v4 hl 0 (x := x) rfl
 obtain ⟨a1, c1, v1, t1⟩ := vs_v4 hl 1 (x := y) rfl
 obtain ⟨a2, c2, v2, t2⟩ := vs_v4 hl 2 (x := z) rfl
 have hls : lsR [1, 2, 0] [x, y, z] = [y, z, x] := rfl
 rw [hls]
 refine (rmv_4 g o c x.k x.n x.s a0 x.l.length c0 y.k y.n y.s a1 y.l.length c1 z.k z.n z.s a2 z.l.length c2 w (by simpa using v0) (by simpa using v1) (by simpa using v2)).mono fun e w' h => ?_
 obtain ⟨he, W, hW, hw'⟩ := h
 obtain ⟨o1, hb⟩ := mv_only hW hw'
 refine ⟨_, _, he, ⟨_, vs_new (S := S) hb (fun i u hu => ?_)⟩, o1⟩
 match i, hu with
 | 0, hu => cases hu; exact ⟨_, ⟨rfl, rfl, rfl, rfl⟩, t1.only o1⟩
 | 1, hu => cases hu; exact ⟨_, ⟨rfl, rfl, rfl, rfl⟩, t2.only o1⟩
 | 2, hu => cases hu; exact ⟨_, ⟨rfl, rfl, rfl, rfl⟩, t0.only o1⟩
 | _ + 3, hu => simp at hu
theorem apc_5 : ApC q5 := by
 refine apc_mv fr_5 (by kernel_rfl) [1] (fun d l => rfl) (by decide) (by decide) (fun D l g o c w S hl hlen => ?_)
 obtain ⟨x, y, rfl⟩ := len_2 hlen
 obtain ⟨a0, c0, v0, t0⟩ := vs_v4 hl 0 (x := x) rfl
 obtain ⟨a1, c1, v1, t1⟩ := vs_v4 hl 1 (x := y) rfl
 have hls : lsR [1] [x, y] = [y] := rfl
 rw [hls]
 refine (rmv_5 g o c x.k x.n x.s a0 x.l.length c0 y.k y.n y.s a1 y.l.length c1 w (by simpa using v0) (by simpa using v1)).mono fun e w' h => ?_
 obtain ⟨he, W, hW, hw'⟩ := h
 obtain ⟨o1, hb⟩ := mv_only hW hw'
 refine ⟨_, _, he, ⟨_, vs_new (S := S) hb (fun i u hu => ?_)⟩, o1⟩
 match i, hu with
 | 0, hu => cases hu; exact ⟨_, ⟨rfl, rfl, rfl, rfl⟩, t1.only o1⟩
 | _ + 1, hu => simp at hu
theorem apc_6 : ApC q6 := by
 refine apc_mv fr_6 (by kernel_rfl) [1, 0, 1] (fun d l => rfl) (by decide) (by decide) (fun D l g o c w S hl hlen => ?_)
 obtain ⟨x, y, rfl⟩ := len_2 hlen
 obtain ⟨a0, c0, v0, t0⟩ := vs_v4 hl 0 (x := x) rfl
 obtain ⟨a1, c1, v1, t1⟩ := vs_v4 hl 1 (x := y) rfl
 have hls : lsR [1, 0, 1] [x, y] = [y, x, y] := rfl
 rw [hls]
 refine (rmv_6 g o c x.k x.n x.s a0 x.l.length c0 y.k y.n y.s a1 y.l.length c1 w (by simpa using v0) (by simpa using v1)).mono fun e w' h => ?_
 obtain ⟨he, W, hW, hw'⟩ := h
 obtain ⟨o1, hb⟩ := mv_only hW hw'
 refine ⟨_, _, he, ⟨_, vs_new (S := S) hb (fun i u hu => ?_)⟩, o1⟩
 match i, hu with
 | 0, hu => cases hu; exact ⟨_, ⟨rfl, rfl, rfl, rfl⟩, t1.only o1⟩
 | 1, hu => cases hu; exact ⟨_, ⟨rfl, rfl, rfl, rfl⟩, t0.only o1⟩
 | 2, hu => cases hu; exact ⟨_, ⟨rfl, rfl, rfl, rfl⟩, t1.only o1⟩
 | _ + 3, hu => simp at hu
theorem mnd_7 : MnD q7.name := fun v hv w => rmv_no (by kernel_rfl) (by kernel_rfl) (by kernel_rfl) (by kernel_rfl) (by kernel_rfl) (by kernel_rfl) (by kernel_rfl) v hv w
theorem kq0_7 : KqC q7.name 0 := kq_no (by kernel_rfl) (by kernel_rfl) (by kernel_rfl) (by kernel_rfl) (by kernel_rfl) (by kernel_rfl)
theorem mnd_8 : MnD q8.name := fun v hv w => rmv_no (by kernel_rfl) (by kernel_rfl) (by kernel_rfl) (by kernel_rfl) (by kernel_rfl) (by kernel_rfl) (by kernel_rfl) v hv w
theorem kq0_8 : KqC q8.name 0 := kq_no (by kernel_rfl) (by kernel_rfl) (by kernel_rfl) (by kernel_rfl) (by kernel_rfl) (by kernel_rfl)
theorem mnd_9 : MnD q9.name := fun v hv w => rmv_no (by kernel_rfl) (by kernel_rfl) (by kernel_rfl) (by kernel_rfl) (by kernel_rfl) (by kernel_rfl) (by kernel_rfl) v hv w
theorem kq0_9 : KqC q9.name 0 := kq_no (by kernel_rfl) (by kernel_rfl) (by kernel_rfl) (by kernel_rfl) (by kernel_rfl) (by kernel_rfl)
theorem mnd_10 : MnD q10.name := fun v hv w => rmv_no (by kernel_rfl) (by kernel_rfl) (by kernel_rfl) (by kernel_rfl) (by kernel_rfl) (by kernel_rfl) (by kernel_rfl) v hv w
theorem kq0_10 : KqC q10.name 0 := kq_no (by kernel_rfl) (by kernel_rfl) (by kernel_rfl) (by kernel_rfl) (by kernel_rfl) (by kernel_rfl)
theorem mnd_11 : MnD q11.name := fun v hv w => rmv_no (by kernel_rfl) (by kernel_rfl) (by kernel_rfl) (by kernel_rfl) (by kernel_rfl) (by kernel_rfl) (by kernel_rfl) v hv w
theorem kq0_11 : KqC q11.name 0 := kq_no (by kernel_rfl) (by kernel_rfl) (by kernel_rfl) (by kernel_rfl) (by kernel_rfl) (by kernel_rfl)
theorem mnd_12 : MnD q12.name := fun v hv w => rmv_no (by kernel_rfl) (by kernel_rfl) (by kernel_rfl) (by kernel_rfl) (by kernel_rfl) (by kernel_rfl) (by kernel_rfl) v hv w
theorem kq0_12 : KqC q12.name 0 := kq_no (by kernel_rfl) (by kernel_rfl) (by kernel_rfl) (by kernel_rfl) (by kernel_rfl) (by kernel_rfl)
theorem mnd_13 : MnD q13.name := fun v hv w => rmv_no (by kernel_rfl) (by kernel_rfl) (by kernel_rfl) (by kernel_rfl) (by kernel_rfl) (by kernel_rfl) (by kernel_rfl) v hv w
theorem kq0_13 : KqC q13.name 0 := kq_no (by kernel_rfl) (by kernel_rfl) (by kernel_rfl) (by kernel_rfl) (by kernel_rfl) (by kernel_rfl)
theorem mnd_14 : MnD q14.name := fun v hv w => rmv_no (by kernel_rfl) (by kernel_rfl) (by kernel_rfl) (by kernel_rfl) (by kernel_rfl) (by kernel_rfl) (by kernel_rfl) v hv w
theorem kq0_14 : KqC q14.name 0 := kq_no (by kernel_rfl) (by kernel_rfl) (by kernel_rfl) (by kernel_rfl) (by kernel_rfl) (by kernel_rfl)
theorem mnd_15 : MnD q15.name := fun v hv w => rmv_no (by kernel_rfl) (by kernel_rfl) (by kernel_rfl) (by kernel_rfl) (by kernel_rfl) (by kernel_rfl) (by kernel_rfl) v hv w
theorem kq0_15 : KqC q15.name 0 := kq_no (by kernel_rfl) (by kernel_rfl) (by kernel_rfl) (by kernel_rfl) (by kernel_rfl) (by kernel_rfl)
theorem mnd_16 : MnD q16.name := fun v hv w => rmv_no (by kernel_rfl) (by kernel_rfl) (by kernel_rfl) (by kernel_rfl) (by kernel_rfl) (by kernel_rfl) (by kernel_rfl) v hv w
theorem kq0_16 : KqC q16.name 0 := kq_no (by kernel_rfl) (by kernel_rfl) (by kernel_rfl) (by kernel_rfl) (by kernel_rfl) (by kernel_rfl)
theorem mnd_17 : MnD q17.name := fun v hv w => rmv_no (by kernel_rfl) (by kernel_rfl) (by kernel_rfl) (by kernel_rfl) (by kernel_rfl) (by kernel_rfl) (by kernel_rfl) v hv w
theorem kq0_17 : KqC q17.name 0 := kq_no (by kernel_rfl) (by kernel_rfl) (by kernel_rfl) (by kernel_rfl) (by kernel_rfl) (by kernel_rfl)
theorem mnd_18 : MnD q18.name := fun v hv w => rmv_no (by kernel_rfl) (by kernel_rfl) (by kernel_rfl) (by kernel_rfl) (by kernel_rfl) (by kernel_rfl) (by kernel_rfl) v hv w
theorem kq0_18 : KqC q18.name 0 := kq_no (by kernel_rfl) (by kernel_rfl) (by kernel_rfl) (by kernel_rfl) (by kernel_rfl) (by kernel_rfl)
theorem mnd_19 : MnD q19.name := fun v hv w => rmv_no (by kernel_rfl) (by kernel_rfl) (by kernel_rfl) (by kernel_rfl) (by kernel_rfl) (by kernel_rfl) (by kernel_rfl) v hv w
theorem kq0_19 : KqC q19.name 0 := kq_no (by kernel_rfl) (by kernel_rfl) (by kernel_rfl) (by kernel_rfl) (by kernel_rfl) (by kernel_rfl)
theorem mnd_20 : MnD q20.name := fun v hv w => rmv_no (by kernel_rfl) (by kernel_rfl) (by kernel_rfl) (by kernel_rfl) (by kernel_rfl) (by kernel_rfl) (by kernel_rfl) v hv w
theorem kq0_20 : KqC q20.name 0 := kq_no (by kernel_rfl) (by kernel_rfl) (by kernel_rfl) (by kernel_rfl) (by kernel_rfl) (by kernel_rfl)
theorem mnd_21 : MnD q21.name := fun v hv w => rmv_no (by kernel_rfl) (by kernel_rfl) (by kernel_rfl) (by kernel_rfl) (by kernel_rfl) (by kernel_rfl) (by kernel_rfl) v hv w
theorem kq0_21 : KqC q21.name 0 := kq_no (by kernel_rfl) (by kernel_rfl) (by kernel_rfl) (by kernel_rfl) (by kernel_rfl) (by kernel_rfl)
theorem mnd_22 : MnD q22.name := fun v hv w => rmv_no (by kernel_rfl) (by kernel_rfl) (by kernel_rfl) (by kernel_rfl) (by kernel_rfl) (by kernel_rfl) (by kernel_rfl) v hv w
theorem apc_22 : ApC q22 := apc_kq fr_22 (by kernel_rfl) mnd_22 1 1 (by decide) kq_1 rfl (fun d l => rfl) (fun x hx => by rcases hx with h | h | h | h | h | h <;> (unfold kd; rw [h]; decide))
theorem mnd_23 : MnD q23.name := fun v hv w => rmv_no (by kernel_rfl) (by kernel_rfl) (by kernel_rfl) (by kernel_rfl) (by kernel_rfl) (by kernel_rfl) (by kernel_rfl) v hv w
theorem apc_23 : ApC q23 := apc_kq fr_23 (by kernel_rfl) mnd_23 2 2 (by decide) kq_2 rfl (fun d l => rfl) (fun x hx => by rcases hx with h | h | h | h | h | h <;> (unfold kd; rw [h]; decide))
theorem mnd_24 : MnD q24.name := fun v hv w => rmv_no (by kernel_rfl) (by kernel_rfl) (by kernel_rfl) (by kernel_rfl) (by kernel_rfl) (by kernel_rfl) (by kernel_rfl) v hv w
theorem apc_24 : ApC q24 := apc_kq fr_24 (by kernel_rfl) mnd_24 3 4 (by decide) kq_3 rfl (fun d l => rfl) (fun x hx => by rcases hx with h | h | h | h | h | h <;> (unfold kd; rw [h]; decide))
theorem mnd_25 : MnD q25.name := fun v hv w => rmv_no (by kernel_rfl) (by kernel_rfl) (by kernel_rfl) (by kernel_rfl) (by kernel_rfl) (by kernel_rfl) (by kernel_rfl) v hv w
theorem apc_25 : ApC q25 := apc_kq fr_25 (by kernel_rfl) mnd_25 4 8 (by decide) kq_4 rfl (fun d l => rfl) (fun x hx => by rcases hx with h | h | h | h | h | h <;> (unfold kd; rw [h]; decide))
theorem mnd_26 : MnD q26.name := fun v hv w => rmv_no (by kernel_rfl) (by kernel_rfl) (by kernel_rfl) (by kernel_rfl) (by kernel_rfl) (by kernel_rfl) (by kernel_rfl) v hv w
theorem apc_26 : ApC q26 := apc_kq fr_26 (by kernel_rfl) mnd_26 5 16 (by decide) kq_5 rfl (fun d l => rfl) (fun x hx => by rcases hx with h | h | h | h | h | h <;> (unfold kd; rw [h]; decide))
theorem mnd_27 : MnD q27.name := fun v hv w => rmv_no (by kernel_rfl) (by kernel_rfl) (by kernel_rfl) (by kernel_rfl) (by kernel_rfl) (by kernel_rfl) (by kernel_rfl) v hv w
theorem apc_27 : ApC q27 := apc_kq fr_27 (by kernel_rfl) mnd_27 6 32 (by decide) kq_6 rfl (fun d l => rfl) (fun x hx => by rcases hx with h | h | h | h | h | h <;> (unfold kd; rw [h]; decide))
theorem mnd_28 : MnD q28.name := fun v hv w => rmv_no (by kernel_rfl) (by kernel_rfl) (by kernel_rfl) (by kernel_rfl) (by kernel_rfl) (by kernel_rfl) (by kernel_rfl) v hv w
theorem kq0_28 : KqC q28.name 0 := kq_no (by kernel_rfl) (by kernel_rfl) (by kernel_rfl) (by kernel_rfl) (by kernel_rfl) (by kernel_rfl)
theorem mnd_29 : MnD q29.name := fun v hv w => rmv_no (by kernel_rfl) (by kernel_rfl) (by kernel_rfl) (by kernel_rfl) (by kernel_rfl) (by kernel_rfl) (by kernel_rfl) v hv w
theorem kq0_29 : KqC q29.name 0 := kq_no (by kernel_rfl) (by kernel_rfl) (by kernel_rfl) (by kernel_rfl) (by kernel_rfl) (by kernel_rfl)
theorem mnd_30 : MnD q30.name := fun v hv w => rmv_no (by kernel_rfl) (by kernel_rfl) (by kernel_rfl) (by kernel_rfl) (by kernel_rfl) (by kernel_rfl) (by kernel_rfl) v hv w
theorem kq0_30 : KqC q30.name 0 := kq_no (by kernel_rfl) (by kernel_rfl) (by kernel_rfl) (by kernel_rfl) (by kernel_rfl) (by kernel_rfl)
theorem mnd_31 : MnD q31.name := fun v hv w => rmv_no (by kernel_rfl) (by kernel_rfl) (by kernel_rfl) (by kernel_rfl) (by kernel_rfl) (by kernel_rfl) (by kernel_rfl) v hv w
theorem kq0_31 : KqC q31.name 0 := kq_no (by kernel_rfl) (by kernel_rfl) (by kernel_rfl) (by kernel_rfl) (by kernel_rfl) (by kernel_rfl)
theorem mnd_32 : MnD q32.name := fun v hv w => rmv_no (by kernel_rfl) (by kernel_rfl) (by kernel_rfl) (by kernel_rfl) (by kernel_rfl) (by kernel_rfl) (by kernel_rfl) v hv w
theorem kq0_32 : KqC q32.name 0 := kq_no (by kernel_rfl) (by kernel_rfl) (by kernel_rfl) (by kernel_rfl) (by kernel_rfl) (by kernel_rfl)
theorem mnd_33 : MnD q33.name := fun v hv w => rmv_no (by kernel_rfl) (by kernel_rfl) (by kernel_rfl) (by kernel_rfl) (by kernel_rfl) (by kernel_rfl) (by kernel_rfl) v hv w
theorem kq0_33 : KqC q33.name 0 := kq_no (by kernel_rfl) (by kernel_rfl) (by kernel_rfl) (by kernel_rfl) (by kernel_rfl) (by kernel_rfl)
theorem mnd_34 : MnD q34.name := fun v hv w => rmv_no (by kernel_rfl) (by kernel_rfl) (by kernel_rfl) (by kernel_rfl) (by kernel_rfl) (by kernel_rfl) (by kernel_rfl) v hv w
theorem kq0_34 : KqC q34.name 0 := kq_no (by kernel_rfl) (by kernel_rfl) (by kernel_rfl) (by kernel_rfl) (by kernel_rfl) (by kernel_rfl)
theorem mnd_35 : MnD q35.name := fun v hv w => rmv_no (by kernel_rfl) (by kernel_rfl) (by kernel_rfl) (by kernel_rfl) (by kernel_rfl) (by kernel_rfl) (by kernel_rfl) v hv w
theorem kq0_35 : KqC q35.name 0 := kq_no (by kernel_rfl) (by kernel_rfl) (by kernel_rfl) (by kernel_rfl) (by kernel_rfl) (by kernel_rfl)
theorem mnd_36 : MnD q36.name := fun v hv w => rmv_no (by kernel_rfl) (by kernel_rfl) (by kernel_rfl) (by kernel_rfl) (by kernel_rfl) (by kernel_rfl) (by kernel_rfl) v hv w
theorem kq0_36 : KqC q36.name 0 := kq_no (by kernel_rfl) (by kernel_rfl) (by kernel_rfl) (by kernel_rfl) (by kernel_rfl) (by kernel_rfl)
theorem mnd_37 : MnD q37.name := fun v hv w => rmv_no (by kernel_rfl) (by kernel_rfl) (by kernel_rfl) (by kernel_rfl) (by kernel_rfl) (by kernel_rfl) (by kernel_rfl) v hv w
theorem kq0_37 : KqC q37.name 0 := kq_no (by kernel_rfl) (by kernel_rfl) (by kernel_rfl) (by kernel_rfl) (by kernel_rfl) (by kernel_rfl)
theorem mnd_38 : MnD q38.name := fun v hv w => rmv_no (by kernel_rfl) (by kernel_rfl) (by kernel_rfl) (by kernel_rfl) (by kernel_rfl) (by kernel_rfl) (by kernel_rfl) v hv w
theorem kq0_38 : KqC q38.name 0 := kq_no (by kernel_rfl) (by kernel_rfl) (by kernel_rfl) (by kernel_rfl) (by kernel_rfl) (by kernel_rfl)
theorem mnd_39 : MnD q39.name := fun v hv w => rmv_no (by kernel_rfl) (by kernel_rfl) (by kernel_rfl) (by kernel_rfl) (by kernel_rfl) (by kernel_rfl) (by kernel_rfl) v hv w
theorem kq0_39 : KqC q39.name 0 := kq_no (by kernel_rfl) (by kernel_rfl) (by kernel_rfl) (by kernel_rfl) (by kernel_rfl) (by kernel_rfl)
theorem rc_rn0 (s : ByteArray) : runeCount s = (rns s).length := by
 have key : ∀ (f pos : Nat), runeCountFrom s f pos = (crs s f pos).length := by
  intro f
  induction f with
  | zero => intro pos; rfl
  | succ f ih =>
    intro pos
    unfold runeCountFrom crs
    by_cases h : pos < s.size
    ·rw [if_pos h, if_pos h, ih, List.length_cons]
     omega
    ·rw [if_neg h, if_neg h]
     rfl
 unfold runeCount rns chs
 rw [key, List.length_map]
theorem one_few {t : Vt} (h : ∃ e, SmT e t) : ([t] : List Vt).length ≤ 10003 ∧ ∀ x ∈ ([t] : List Vt), ∃ e, SmT e x := ⟨by simp, fun x hx => by simp at hx; subst hx; exact h⟩
theorem ok_few {t : Vt} {rs : List Vt} (h : oneR (.ok t) = .ok rs) (hs : ∃ e, SmT e t) : rs.length ≤ 10003 ∧ ∀ x ∈ rs, ∃ e, SmT e x := by
 cases h
 exact one_few hs
theorem nm_few {rk : Int → Int → Int × Int} {a b : Int} (hb : -9223372036854775808 ≤ (rk a b).1 ∧ (rk a b).1 ≤ 9223372036854775807) {rs : List Vt} (h : oneR (nmR rk a b) = .ok rs) : rs.length ≤ 10003 ∧ ∀ x ∈ rs, ∃ e, SmT e x := by
 unfold nmR at h
 split at h
 ·exact ok_few h (in_sm hb)
 ·cases h
theorem gd_fit {d D : Nat} {l : List Vt} (hg : Gd d D l) {x : Vt} (hx : x ∈ l) (hk : x.k = 1) : cfit x.n = true := sd_fit (hg x hx).2.2.2.1 hk
theorem apc_7 : ApC q7 := by
 refine apc_rows fr_7 (by kernel_rfl) mnd_7 kq0_7 (fun d D l g o c w S hd hD hl hS hlen hg hf => ?_) (fun d D l rs hd hD hlen hg hf h => ?_)
 ·obtain ⟨x, y, rfl, kx, ky⟩ := fit2 hlen hf
  obtain ⟨a0, c0, v0, t0⟩ := vs_v4 hl 0 (x := x) rfl
  obtain ⟨a1, c1, v1, t1⟩ := vs_v4 hl 1 (x := y) rfl
  have u0 : V4 w g o x.k x.n x.s (.slice a0 x.l.length c0) := by simpa using v0
  have u1 : V4 w g (o + 4) y.k y.n y.s (.slice a1 y.l.length c1) := by simpa using v1
  exact (rra_add _ ⟨_, _, _, rfl⟩ _ _ (rar_add g o c x.n y.n w u0.2.1 u1.2.1)).mono fun e w' h => h.up (by omega)
 ·obtain ⟨x, y, rfl, kx, ky⟩ := fit2 hlen hf
  exact nm_few (ar_b _ _ _) h
theorem apc_8 : ApC q8 := by
 refine apc_rows fr_8 (by kernel_rfl) mnd_8 kq0_8 (fun d D l g o c w S hd hD hl hS hlen hg hf => ?_) (fun d D l rs hd hD hlen hg hf h => ?_)
 ·obtain ⟨x, y, rfl, kx, ky⟩ := fit2 hlen hf
  obtain ⟨a0, c0, v0, t0⟩ := vs_v4 hl 0 (x := x) rfl
  obtain ⟨a1, c1, v1, t1⟩ := vs_v4 hl 1 (x := y) rfl
  have u0 : V4 w g o x.k x.n x.s (.slice a0 x.l.length c0) := by simpa using v0
  have u1 : V4 w g (o + 4) y.k y.n y.s (.slice a1 y.l.length c1) := by simpa using v1
  exact (rra_sub _ ⟨_, _, _, rfl⟩ _ _ (rar_sub g o c x.n y.n w u0.2.1 u1.2.1)).mono fun e w' h => h.up (by omega)
 ·obtain ⟨x, y, rfl, kx, ky⟩ := fit2 hlen hf
  exact nm_few (ar_b _ _ _) h
theorem apc_9 : ApC q9 := by
 refine apc_rows fr_9 (by kernel_rfl) mnd_9 kq0_9 (fun d D l g o c w S hd hD hl hS hlen hg hf => ?_) (fun d D l rs hd hD hlen hg hf h => ?_)
 ·obtain ⟨x, y, rfl, kx, ky⟩ := fit2 hlen hf
  obtain ⟨a0, c0, v0, t0⟩ := vs_v4 hl 0 (x := x) rfl
  obtain ⟨a1, c1, v1, t1⟩ := vs_v4 hl 1 (x := y) rfl
  have u0 : V4 w g o x.k x.n x.s (.slice a0 x.l.length c0) := by simpa using v0
  have u1 : V4 w g (o + 4) y.k y.n y.s (.slice a1 y.l.length c1) := by simpa using v1
  exact (rra_mul _ ⟨_, _, _, rfl⟩ _ _ (rar_mul g o c x.n y.n w u0.2.1 u1.2.1)).mono fun e w' h => h.up (by omega)
 ·obtain ⟨x, y, rfl, kx, ky⟩ := fit2 hlen hf
  exact nm_few (ar_b _ _ _) h
theorem apc_10 : ApC q10 := by
 refine apc_rows fr_10 (by kernel_rfl) mnd_10 kq0_10 (fun d D l g o c w S hd hD hl hS hlen hg hf => ?_) (fun d D l rs hd hD hlen hg hf h => ?_)
 ·obtain ⟨x, y, rfl, kx, ky⟩ := fit2 hlen hf
  obtain ⟨a0, c0, v0, t0⟩ := vs_v4 hl 0 (x := x) rfl
  obtain ⟨a1, c1, v1, t1⟩ := vs_v4 hl 1 (x := y) rfl
  have u0 : V4 w g o x.k x.n x.s (.slice a0 x.l.length c0) := by simpa using v0
  have u1 : V4 w g (o + 4) y.k y.n y.s (.slice a1 y.l.length c1) := by simpa using v1
  exact (rra_div _ ⟨_, _, _, rfl⟩ _ _ (rar_div g o c x.n y.n w u0.2.1 u1.2.1)).mono fun e w' h => h.up (by omega)
 ·obtain ⟨x, y, rfl, kx, ky⟩ := fit2 hlen hf
  exact nm_few (ar_b _ _ _) h
theorem apc_11 : ApC q11 := by
 refine apc_rows fr_11 (by kernel_rfl) mnd_11 kq0_11 (fun d D l g o c w S hd hD hl hS hlen hg hf => ?_) (fun d D l rs hd hD hlen hg hf h => ?_)
 ·obtain ⟨x, y, rfl, kx, ky⟩ := fit2 hlen hf
  obtain ⟨a0, c0, v0, t0⟩ := vs_v4 hl 0 (x := x) rfl
  obtain ⟨a1, c1, v1, t1⟩ := vs_v4 hl 1 (x := y) rfl
  have u0 : V4 w g o x.k x.n x.s (.slice a0 x.l.length c0) := by simpa using v0
  have u1 : V4 w g (o + 4) y.k y.n y.s (.slice a1 y.l.length c1) := by simpa using v1
  exact (rra_mod _ ⟨_, _, _, rfl⟩ _ _ (rar_mod g o c x.n y.n w u0.2.1 u1.2.1)).mono fun e w' h => h.up (by omega)
 ·obtain ⟨x, y, rfl, kx, ky⟩ := fit2 hlen hf
  exact nm_few (ar_b _ _ _) h
theorem apc_12 : ApC q12 := by
 refine apc_rows fr_12 (by kernel_rfl) mnd_12 kq0_12 (fun d D l g o c w S hd hD hl hS hlen hg hf => ?_) (fun d D l rs hd hD hlen hg hf h => ?_)
 ·obtain ⟨x, rfl, kx⟩ := fit1 hlen hf
  obtain ⟨a0, c0, v0, t0⟩ := vs_v4 hl 0 (x := x) rfl
  have u0 : V4 w g o x.k x.n x.s (.slice a0 x.l.length c0) := by simpa using v0
  exact (rra_neg _ ⟨_, _, _, rfl⟩ _ _ (rar_neg g o c x.n w u0.2.1)).mono fun e w' h => h.up (by omega)
 ·obtain ⟨x, rfl, kx⟩ := fit1 hlen hf
  exact nm_few (ng_b _ _) h
theorem apc_13 : ApC q13 := by
 refine apc_rows fr_13 (by kernel_rfl) mnd_13 kq0_13 (fun d D l g o c w S hd hD hl hS hlen hg hf => ?_) (fun d D l rs hd hD hlen hg hf h => ?_)
 ·obtain ⟨x, rfl, kx⟩ := fit1 hlen hf
  obtain ⟨a0, c0, v0, t0⟩ := vs_v4 hl 0 (x := x) rfl
  have u0 : V4 w g o x.k x.n x.s (.slice a0 x.l.length c0) := by simpa using v0
  have hc := gd_fit hg (x := x) (by simp) (fb_1 kx)
  by_cases hn : x.n < 0
  ·exact (rra_abs _ ⟨_, _, _, rfl⟩ _ _ (rar_absm g o c x.n w u0.2.1 hn)).mono fun e w' h => h.up (by omega)
  ·exact (rra_abs _ ⟨_, _, _, rfl⟩ _ _ (rar_absp g o c x.n w u0.2.1 hc hn)).mono fun e w' h => h.up (by omega)
 ·obtain ⟨x, rfl, kx⟩ := fit1 hlen hf
  exact nm_few (ab_b _ _ (gd_fit hg (x := x) (by simp) (fb_1 kx))) h
theorem apc_14 : ApC q14 := by
 refine apc_rows fr_14 (by kernel_rfl) mnd_14 kq0_14 (fun d D l g o c w S hd hD hl hS hlen hg hf => ?_) (fun d D l rs hd hD hlen hg hf h => ?_)
 ·obtain ⟨x, y, rfl, kx, ky⟩ := fit2 hlen hf
  obtain ⟨a0, c0, v0, t0⟩ := vs_v4 hl 0 (x := x) rfl
  obtain ⟨a1, c1, v1, t1⟩ := vs_v4 hl 1 (x := y) rfl
  have u0 : V4 w g o x.k x.n x.s (.slice a0 x.l.length c0) := by simpa using v0
  have u1 : V4 w g (o + 4) y.k y.n y.s (.slice a1 y.l.length c1) := by simpa using v1
  exact (rra_min _ ⟨_, _, _, rfl⟩ _ _ (rar_min g o c x.n y.n w u0.2.1 u1.2.1)).mono fun e w' h => h.up (by omega)
 ·obtain ⟨x, y, rfl, kx, ky⟩ := fit2 hlen hf
  exact nm_few (mi_b _ _ (gd_fit hg (x := x) (by simp) (fb_1 kx)) (gd_fit hg (x := y) (by simp) (fb_1 ky))) h
theorem apc_15 : ApC q15 := by
 refine apc_rows fr_15 (by kernel_rfl) mnd_15 kq0_15 (fun d D l g o c w S hd hD hl hS hlen hg hf => ?_) (fun d D l rs hd hD hlen hg hf h => ?_)
 ·obtain ⟨x, y, rfl, kx, ky⟩ := fit2 hlen hf
  obtain ⟨a0, c0, v0, t0⟩ := vs_v4 hl 0 (x := x) rfl
  obtain ⟨a1, c1, v1, t1⟩ := vs_v4 hl 1 (x := y) rfl
  have u0 : V4 w g o x.k x.n x.s (.slice a0 x.l.length c0) := by simpa using v0
  have u1 : V4 w g (o + 4) y.k y.n y.s (.slice a1 y.l.length c1) := by simpa using v1
  exact (rra_max _ ⟨_, _, _, rfl⟩ _ _ (rar_max g o c x.n y.n w u0.2.1 u1.2.1)).mono fun e w' h => h.up (by omega)
 ·obtain ⟨x, y, rfl, kx, ky⟩ := fit2 hlen hf
  exact nm_few (ma_b _ _ (gd_fit hg (x := x) (by simp) (fb_1 kx)) (gd_fit hg (x := y) (by simp) (fb_1 ky))) h
theorem apc_16 : ApC q16 := by
 refine apc_rows fr_16 (by kernel_rfl) mnd_16 kq0_16 (fun d D l g o c w S hd hD hl hS hlen hg hf => ?_) (fun d D l rs hd hD hlen hg hf h => ?_)
 ·obtain ⟨x, y, rfl, kx, ky⟩ := fit2 hlen hf
  obtain ⟨a0, c0, v0, t0⟩ := vs_v4 hl 0 (x := x) rfl
  obtain ⟨a1, c1, v1, t1⟩ := vs_v4 hl 1 (x := y) rfl
  have u0 : V4 w g o x.k x.n x.s (.slice a0 x.l.length c0) := by simpa using v0
  have u1 : V4 w g (o + 4) y.k y.n y.s (.slice a1 y.l.length c1) := by simpa using v1
  exact (rra_lt _ ⟨_, _, _, rfl⟩ _ _ (rar_lt g o c x.n y.n w u0.2.1 u1.2.1)).mono fun e w' h => h.up (by omega)
 ·obtain ⟨x, y, rfl, kx, ky⟩ := fit2 hlen hf
  exact ok_few h (bo_sm _)
theorem apc_17 : ApC q17 := by
 refine apc_rows fr_17 (by kernel_rfl) mnd_17 kq0_17 (fun d D l g o c w S hd hD hl hS hlen hg hf => ?_) (fun d D l rs hd hD hlen hg hf h => ?_)
 ·obtain ⟨x, y, rfl, kx, ky⟩ := fit2 hlen hf
  obtain ⟨a0, c0, v0, t0⟩ := vs_v4 hl 0 (x := x) rfl
  obtain ⟨a1, c1, v1, t1⟩ := vs_v4 hl 1 (x := y) rfl
  have u0 : V4 w g o x.k x.n x.s (.slice a0 x.l.length c0) := by simpa using v0
  have u1 : V4 w g (o + 4) y.k y.n y.s (.slice a1 y.l.length c1) := by simpa using v1
  exact (rra_gt _ ⟨_, _, _, rfl⟩ _ _ (rar_gt g o c x.n y.n w u0.2.1 u1.2.1)).mono fun e w' h => h.up (by omega)
 ·obtain ⟨x, y, rfl, kx, ky⟩ := fit2 hlen hf
  exact ok_few h (bo_sm _)
theorem fl_de (x : Vt) : decide (x.n ≠ 0) = flB x := by unfold flB; by_cases h : x.n = 0 <;> simp [h]
theorem fl_dn (x : Vt) : decide (x.n = 0) = !flB x := by unfold flB; by_cases h : x.n = 0 <;> simp [h]
theorem apc_19 : ApC q19 := by
 refine apc_rows fr_19 (by kernel_rfl) mnd_19 kq0_19 (fun d D l g o c w S hd hD hl hS hlen hg hf => ?_) (fun d D l rs hd hD hlen hg hf h => ?_)
 ·obtain ⟨x, y, rfl, kx, ky⟩ := fit2 hlen hf
  obtain ⟨a0, c0, v0, t0⟩ := vs_v4 hl 0 (x := x) rfl
  obtain ⟨a1, c1, v1, t1⟩ := vs_v4 hl 1 (x := y) rfl
  have u0 : V4 w g o x.k x.n x.s (.slice a0 x.l.length c0) := by simpa using v0
  have u1 : V4 w g (o + 4) y.k y.n y.s (.slice a1 y.l.length c1) := by simpa using v1
  have h := rro_and g o c x.n y.n w u0.2.1 u1.2.1
  rw [fl_de, fl_de] at h
  exact h.mono fun e w' h => h.up (by omega)
 ·obtain ⟨x, y, rfl, kx, ky⟩ := fit2 hlen hf
  exact ok_few h (bo_sm _)
theorem apc_20 : ApC q20 := by
 refine apc_rows fr_20 (by kernel_rfl) mnd_20 kq0_20 (fun d D l g o c w S hd hD hl hS hlen hg hf => ?_) (fun d D l rs hd hD hlen hg hf h => ?_)
 ·obtain ⟨x, y, rfl, kx, ky⟩ := fit2 hlen hf
  obtain ⟨a0, c0, v0, t0⟩ := vs_v4 hl 0 (x := x) rfl
  obtain ⟨a1, c1, v1, t1⟩ := vs_v4 hl 1 (x := y) rfl
  have u0 : V4 w g o x.k x.n x.s (.slice a0 x.l.length c0) := by simpa using v0
  have u1 : V4 w g (o + 4) y.k y.n y.s (.slice a1 y.l.length c1) := by simpa using v1
  have h := rro_or g o c x.n y.n w u0.2.1 u1.2.1
  rw [fl_de, fl_de] at h
  exact h.mono fun e w' h => h.up (by omega)
 ·obtain ⟨x, y, rfl, kx, ky⟩ := fit2 hlen hf
  exact ok_few h (bo_sm _)
theorem apc_21 : ApC q21 := by
 refine apc_rows fr_21 (by kernel_rfl) mnd_21 kq0_21 (fun d D l g o c w S hd hD hl hS hlen hg hf => ?_) (fun d D l rs hd hD hlen hg hf h => ?_)
 ·obtain ⟨x, rfl, kx⟩ := fit1 hlen hf
  obtain ⟨a0, c0, v0, t0⟩ := vs_v4 hl 0 (x := x) rfl
  have u0 : V4 w g o x.k x.n x.s (.slice a0 x.l.length c0) := by simpa using v0
  have h := rro_not g o c x.n w u0.2.1
  rw [fl_dn] at h
  exact h.mono fun e w' h => h.up (by omega)
 ·obtain ⟨x, rfl, kx⟩ := fit1 hlen hf
  exact ok_few h (bo_sm _)
theorem ln_le {d D : Nat} {l : List Vt} (hg : Gd d D l) {x : Vt} (hx : x ∈ l) : lnT x ≤ 10000 ∧ lnT x = if x.k = 2 then (rns x.s).length else x.l.length := by
 have h := hg x hx
 unfold lnT
 rw [rc_rn0]
 split
 ·refine ⟨?_, rfl⟩
  have h1 : runeCount x.s ≤ x.s.size := rc_le x.s _ _
  rw [rc_rn0] at h1
  omega
 ·exact ⟨h.2.2.2.2.1, rfl⟩
theorem apc_28 : ApC q28 := by
 refine apc_rows fr_28 (by kernel_rfl) mnd_28 kq0_28 (fun d D l g o c w S hd hD hl hS hlen hg hf => ?_) (fun d D l rs hd hD hlen hg hf h => ?_)
 ·obtain ⟨x, rfl, kx⟩ := fit1 hlen hf
  obtain ⟨a0, c0, v0, t0⟩ := vs_v4 hl 0 (x := x) rfl
  have u0 : V4 w g o x.k x.n x.s (.slice a0 x.l.length c0) := by simpa using v0
  have h := rro_length g o c x.k x.n x.s (by have := (hg x (by simp)).2.2.2.2.2; omega) a0 x.l.length c0 w u0
  rw [← (ln_le hg (x := x) (by simp)).2] at h
  exact h.mono fun e w' h => h.up (by omega)
 ·obtain ⟨x, rfl, kx⟩ := fit1 hlen hf
  exact ok_few h (in_sm (by have := (ln_le hg (x := x) (by simp)).1; simp only [List.getD_cons_zero]; omega))
theorem apc_32 : ApC q32 := by
 refine apc_rows fr_32 (by kernel_rfl) mnd_32 kq0_32 (fun d D l g o c w S hd hD hl hS hlen hg hf => ?_) (fun d D l rs hd hD hlen hg hf h => ?_)
 ·obtain ⟨x, rfl, kx⟩ := fit1 hlen hf
  obtain ⟨a0, c0, v0, t0⟩ := vs_v4 hl 0 (x := x) rfl
  have u0 : V4 w g o x.k x.n x.s (.slice a0 x.l.length c0) := by simpa using v0
  exact (rro_wrap g o c [x] rfl hl).mono fun e w' h => h.up (by omega)
 ·obtain ⟨x, rfl, kx⟩ := fit1 hlen hf
  exact ok_few h (lis_sm (fun z hz => (hg z hz).1) (by simp))
theorem apc_33 : ApC q33 := by
 refine apc_rows fr_33 (by kernel_rfl) mnd_33 kq0_33 (fun d D l g o c w S hd hD hl hS hlen hg hf => ?_) (fun d D l rs hd hD hlen hg hf h => ?_)
 ·obtain ⟨x, y, rfl, kx, ky⟩ := fit2 hlen hf
  obtain ⟨a0, c0, v0, t0⟩ := vs_v4 hl 0 (x := x) rfl
  obtain ⟨a1, c1, v1, t1⟩ := vs_v4 hl 1 (x := y) rfl
  have u0 : V4 w g o x.k x.n x.s (.slice a0 x.l.length c0) := by simpa using v0
  have u1 : V4 w g (o + 4) y.k y.n y.s (.slice a1 y.l.length c1) := by simpa using v1
  exact (rro_pair g o c [x, y] rfl hl).mono fun e w' h => h.up (by omega)
 ·obtain ⟨x, y, rfl, kx, ky⟩ := fit2 hlen hf
  exact ok_few h (lis_sm (fun z hz => (hg z hz).1) (by simp))
theorem apc_34 : ApC q34 := by
 refine apc_rows fr_34 (by kernel_rfl) mnd_34 kq0_34 (fun d D l g o c w S hd hD hl hS hlen hg hf => ?_) (fun d D l rs hd hD hlen hg hf h => ?_)
 ·obtain ⟨x, rfl, kx⟩ := fit1 hlen hf
  obtain ⟨a0, c0, v0, t0⟩ := vs_v4 hl 0 (x := x) rfl
  have u0 : V4 w g o x.k x.n x.s (.slice a0 x.l.length c0) := by simpa using v0
  exact (rro_unpair g o c x a0 c0 u0.2.2.2 t0).mono fun e w' h => h.up (by omega)
 ·obtain ⟨x, rfl, kx⟩ := fit1 hlen hf
  have h' : unR [x] = .ok rs := h
  unfold unR at h'
  dsimp only at h'
  split at h'
  ·cases h'
   exact ⟨by omega, sm_parts (hg x (by simp)).1⟩
  ·cases h'
theorem apc_39 : ApC q39 := by
 refine apc_rows fr_39 (by kernel_rfl) mnd_39 kq0_39 (fun d D l g o c w S hd hD hl hS hlen hg hf => ?_) (fun d D l rs hd hD hlen hg hf h => ?_)
 ·obtain ⟨x, rfl, kx⟩ := fit1 hlen hf
  obtain ⟨a0, c0, v0, t0⟩ := vs_v4 hl 0 (x := x) rfl
  have u0 : V4 w g o x.k x.n x.s (.slice a0 x.l.length c0) := by simpa using v0
  exact (rro_int g o c x.s (by have := (hg x (by simp)).2.2.2.2.2; omega) w u0.2.2.1).mono fun e w' h => h.up (by omega)
 ·obtain ⟨x, rfl, kx⟩ := fit1 hlen hf
  have h' : oneR (if (numR x.s).2 = 0 then .ok (inT (numR x.s).1) else .error (numR x.s).2) = .ok rs := h
  split at h'
  ·exact ok_few h' (in_sm (num_small _))
  ·cases h'
end Go.Proofs.YtenjollhlgjjdaaGreatDoor
