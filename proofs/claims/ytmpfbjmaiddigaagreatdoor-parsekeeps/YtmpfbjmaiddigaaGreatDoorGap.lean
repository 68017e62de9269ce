/- Sources one behind the other: forms. -/
import Derived.Test.YtmpfbjmaiddigaaGreatDoorGao
namespace Go.Proofs.YtmpfbjmaiddigaaGreatDoor
open Go.RowKit
set_option linter.unusedSimpArgs false
set_option linter.unusedVariables false
/-- a form whose lists are small -/
def Wff (fm : Fm) : Prop := fm.b.length ≤ 4096 ∧ (∃ e, WfT e (bdT fm)) ∧ ∃ e, WfT e fm.it
theorem wf_no : WfT 1 noT := ⟨Nat.zero_le _, fun x hx => by simp [noT] at hx⟩
theorem Wff.wfm {fm : Fm} (h : Wff fm) : Wfm fm := by
  obtain ⟨h1, ⟨e, h2⟩, h3⟩ := h
  refine ⟨h1, fun x hx => ?_, fun _ => h3⟩
  cases e with
  | zero => exact h2.elim
  | succ e => exact ⟨e, h2.2 x hx⟩
theorem dfR_wf {n : Int} {f : Nat} {q : List Tok} {o z : Int} {fm : Fm} {r : List Tok} {z' : Int} (hz : z ≤ 1024) (hq : q.length ≤ 4096) (h : dfR n f q o z = .ok (fm, r, z')) : Wff fm := by
  cases q with
  | nil => simp [dfR] at h
  | cons t0 q1 =>
    simp only [dfR] at h
    split at h
    · simp at h
    · rename_i hf
      cases q1 with
      | nil => simp [dfN] at h
      | cons t1 q2 =>
        simp only [dfN] at h
        split at h
        · simp at h
        · cases q2 with
          | nil => simp [dfQ] at h
          | cons t2 q3 =>
            simp only [dfQ] at h
            split at h
            · simp at h
            · unfold dfA at h
              split at h
              · simp at h
              · rename_i i q4 h4
                unfold dfB at h
                split at h
                · simp at h
                · rename_i j q5 h5
                  unfold dfC at h
                  split at h
                  · simp at h
                  · rename_i l q6 z6 h6
                    simp only [Except.ok.injEq, Prod.mk.injEq] at h
                    obtain ⟨rfl, _, _⟩ := h
                    have a4 := (sdR_len n _ _ _ _ _ h4).1
                    have a5 := (sdR_len n _ _ _ _ _ h5).1
                    have a6 := prs_ok n _ _ _ _ _ _ _ _ h6 (by omega)
                    simp only [List.length_cons] at hq
                    have a7 := prs_wf n _ _ _ _ _ _ _ _ h6 (by omega) (by omega)
                    exact ⟨by dsimp only; omega, ⟨f + 1, by dsimp only [bdT]; omega, a7⟩, ⟨1, wf_no⟩⟩
theorem fmR_wf {n : Int} {f : Nat} {q : List Tok} {o z : Int} {fm : Fm} {r : List Tok} {z' : Int} (hz : z ≤ 1024) (hq : q.length ≤ 4096) (h : fmR n f q o z = .ok (fm, r, z')) : Wff fm := by
  cases q with
  | nil => simp [fmR] at h
  | cons t q =>
    simp only [fmR] at h
    split at h
    · exact dfR_wf hz hq h
    · split at h
      · simp at h
      · rename_i l q' z'' hp
        simp only [Except.ok.injEq, Prod.mk.injEq] at h
        obtain ⟨rfl, _, _⟩ := h
        have a6 := (prs_ok n _ _ _ _ _ _ _ _ hp hz).2.2.2.1 (by omega)
        have a7 := prs_wf n _ _ _ _ _ _ _ _ hp hz hq
        match l, a6 with
        | [x], _ => exact ⟨Nat.zero_le _, ⟨1, Nat.zero_le _, fun x hx => by simp [bdT] at hx⟩, ⟨f, a7 x (by simp)⟩⟩
theorem alR_wf (n : Int) (F : Nat) : ∀ (g : Nat) (q : List Tok) (l : List Fm), q.length ≤ 4096 → alR n F g q = .ok l → l.length ≤ q.length ∧ ∀ fm ∈ l, Wff fm
  | 0, _, _, _, h => by simp [alR] at h
  | g + 1, [], l, _, h => by
    simp only [alR, Except.ok.injEq] at h
    subst h
    exact ⟨Nat.le_refl _, fun fm hf => by simp at hf⟩
  | g + 1, t :: r, l, hl, h => by
    simp only [alR] at h
    cases hf : fmR n F (t :: r) 0 0 with
    | error e => rw [hf] at h; simp at h
    | ok p =>
      obtain ⟨fm, q, z⟩ := p
      rw [hf] at h
      dsimp only at h
      cases ha : alR n F g q with
      | error e => rw [ha] at h; simp at h
      | ok l1 =>
        rw [ha] at h
        simp only [Except.ok.injEq] at h
        subst h
        have h1 := fmR_len (by omega) hf
        have h2 := fmR_wf (by omega) hl hf
        obtain ⟨h3, h4⟩ := alR_wf n F g q l1 (by omega) ha
        refine ⟨by simp only [List.length_cons] at *; omega, fun x hx => ?_⟩
        rcases List.mem_cons.1 hx with rfl | hx
        · exact h2
        · exact h4 x hx
theorem dfR_err {n : Int} {f : Nat} {q : List Tok} {o z : Int} {a e : Int} (hz : z ≤ 1024) (hf : 3 * q.length + 3 ≤ f) (h : dfR n f q o z = .error (a, e)) : e = 9 ∨ e = 11 := by
  cases q with
  | nil => simp only [dfR, Except.error.injEq, Prod.mk.injEq] at h; omega
  | cons t0 q1 =>
    simp only [dfR] at h
    simp only [List.length_cons] at hf
    split at h
    · simp only [Except.error.injEq, Prod.mk.injEq] at h; omega
    · cases q1 with
      | nil => simp only [dfN, Except.error.injEq, Prod.mk.injEq] at h; omega
      | cons t1 q2 =>
        simp only [dfN] at h
        split at h
        · simp only [Except.error.injEq, Prod.mk.injEq] at h; omega
        · cases q2 with
          | nil => simp only [dfQ, Except.error.injEq, Prod.mk.injEq] at h; omega
          | cons t2 q3 =>
            simp only [dfQ] at h
            simp only [List.length_cons] at hf
            split at h
            · simp only [Except.error.injEq, Prod.mk.injEq] at h; omega
            · unfold dfA at h
              split at h
              · rename_i e' h4
                simp only [Except.error.injEq] at h
                subst h
                exact sdR_err n _ _ _ _ _ h4
              · rename_i i q4 h4
                unfold dfB at h
                split at h
                · rename_i e' h5
                  simp only [Except.error.injEq] at h
                  subst h
                  exact sdR_err n _ _ _ _ _ h5
                · rename_i j q5 h5
                  unfold dfC at h
                  have a4 := (sdR_len n _ _ _ _ _ h4).1
                  have a5 := (sdR_len n _ _ _ _ _ h5).1
                  split at h
                  · rename_i e' h6
                    simp only [Except.error.injEq] at h
                    subst h
                    exact prs_err n _ _ _ _ _ _ _ h6 (by omega) (by omega)
                  · simp at h
theorem fmR_err {n : Int} {f : Nat} {q : List Tok} {o z : Int} {a e : Int} (hz : z ≤ 1024) (hf : 3 * q.length + 3 ≤ f) (h : fmR n f q o z = .error (a, e)) : e = 9 ∨ e = 11 := by
  cases q with
  | nil => simp only [fmR, Except.error.injEq, Prod.mk.injEq] at h; omega
  | cons t q =>
    simp only [fmR] at h
    split at h
    · exact dfR_err hz hf h
    · split at h
      · rename_i e' hp
        simp only [Except.error.injEq] at h
        subst h
        exact prs_err n _ _ _ _ _ _ _ hp hz (by omega)
      · simp at h
theorem alR_err (n : Int) (F : Nat) : ∀ (g : Nat) (q : List Tok) (a e : Int), q.length < g → 3 * q.length + 3 ≤ F → alR n F g q = .error (a, e) → e = 9 ∨ e = 11
  | 0, _, _, _, h, _, _ => by omega
  | g + 1, [], a, e, _, _, h => by simp [alR] at h
  | g + 1, t :: r, a, e, hl, hF, h => by
    simp only [alR] at h
    cases hf : fmR n F (t :: r) 0 0 with
    | error p =>
      rw [hf] at h
      simp only [Except.error.injEq] at h
      subst h
      exact fmR_err (by omega) hF hf
    | ok p =>
      obtain ⟨fm, q, z⟩ := p
      have h1 := fmR_len (by omega) hf
      rw [hf] at h
      dsimp only at h
      simp only [List.length_cons] at hl hF h1
      cases ha : alR n F g q with
      | error p =>
        rw [ha] at h
        simp only [Except.error.injEq] at h
        subst h
        exact alR_err n F g q a e (by omega) (by omega) ha
      | ok l1 => rw [ha] at h; simp at h
/-- a source that is read -/
theorem parR_ok {s : ByteArray} (h : (parR s).2.2 = 0) : (tokR s).2.2 = 0 ∧ alR (s.size : Int) 12400 ((tokR s).1.length + 1) (tokR s).1 = .ok (parR s).1 ∧ (parR s).2.1 = 0 := by
  unfold parR at h ⊢
  by_cases h0 : (tokR s).2.2 = 0
  · rw [if_pos h0] at h ⊢
    cases ha : alR (s.size : Int) 12400 ((tokR s).1.length + 1) (tokR s).1 with
    | error p =>
      obtain ⟨a, e⟩ := p
      rw [ha] at h
      have := alR_err _ _ _ _ a e (by omega) (by have := tokR_len s; omega) ha
      dsimp only at h
      omega
    | ok l => exact ⟨h0, rfl, rfl⟩
  · rw [if_neg h0] at h
    exact absurd h h0
theorem parR_bad {s : ByteArray} (h : ¬ (parR s).2.2 = 0) : (parR s).1 = [] := by
  unfold parR at h ⊢
  split
  · rename_i h0
    rw [if_pos h0] at h
    cases ha : alR (s.size : Int) 12400 ((tokR s).1.length + 1) (tokR s).1 with
    | error p => rfl
    | ok l => rw [ha] at h; exact absurd rfl h
  · rfl
theorem parR_wf {s : ByteArray} : (parR s).1.length ≤ 4096 ∧ ∀ fm ∈ (parR s).1, Wff fm := by
  by_cases h : (parR s).2.2 = 0
  · obtain ⟨h0, h1, _⟩ := parR_ok h
    have hl := tokR_len s
    obtain ⟨h2, h3⟩ := alR_wf _ _ _ _ _ hl h1
    exact ⟨by omega, h3⟩
  · rw [parR_bad h]
    exact ⟨Nat.zero_le _, fun fm hf => by simp at hf⟩
/-- two sources, one on each line -/
theorem pjoin {s t : ByteArray} (h1 : (parR s).2.2 = 0) (h2 : (parR t).2.2 = 0) :
    ((s.size + t.size < 65536 ∧ (tokR s).1.length + (tokR t).1.length ≤ 4096) ∧ parR (s ++ ⟨#[10]⟩ ++ t) = ((parR s).1 ++ (parR t).1, 0, 0)) ∨ ((65536 ≤ s.size + t.size ∨ 4096 < (tokR s).1.length + (tokR t).1.length) ∧ (parR (s ++ ⟨#[10]⟩ ++ t)).2.2 = 11) := by
  obtain ⟨a1, a2, _⟩ := parR_ok h1
  obtain ⟨b1, b2, _⟩ := parR_ok h2
  have bad : (tokR (s ++ ⟨#[10]⟩ ++ t)).2.2 = 11 → (parR (s ++ ⟨#[10]⟩ ++ t)).2.2 = 11 := by
    intro h
    unfold parR
    rw [if_neg (by rw [h]; omega)]
    exact h
  by_cases hz : s.size + t.size < 65536
  · by_cases hn : (tokR s).1.length + (tokR t).1.length ≤ 4096
    · refine .inl ⟨⟨hz, hn⟩, ?_⟩
      have hj := joins_pure a1 b1 hz hn
      obtain ⟨J, hJ⟩ : ∃ J, J = s ++ ⟨#[10]⟩ ++ t := ⟨_, rfl⟩
      rw [← hJ] at hj ⊢
      have hB : alR (J.size : Int) 12400 ((tokR t).1.length + 1) ((tokR t).1.map (shT (s.size + 1))) = .ok (parR t).1 := by
        have := alR_join (t.size : Int) (J.size : Int) 12400 (s.size + 1) [] [] 1 rfl (by simp) ((tokR t).1.length + 1) (tokR t).1 (parR t).1 (by omega) b2
        rw [List.append_nil, List.append_nil] at this
        rw [← this]
        exact alR_fuel _ _ _ _ _ (by simp) (by simp; omega)
      have hA := alR_join (s.size : Int) (J.size : Int) 12400 0 ((tokR t).1.map (shT (s.size + 1))) (parR t).1 ((tokR t).1.length + 1) hB (by simp) ((tokR s).1.length + 1) (tokR s).1 (parR s).1 (by omega) a2
      rw [sh_map0] at hA
      have hC : alR (J.size : Int) 12400 (((tokR s).1 ++ (tokR t).1.map (shT (s.size + 1))).length + 1) ((tokR s).1 ++ (tokR t).1.map (shT (s.size + 1))) = .ok ((parR s).1 ++ (parR t).1) := by
        rw [← hA]
        exact alR_fuel _ _ _ _ _ (by omega) (by simp; omega)
      unfold parR at hC ⊢
      rw [hj]
      dsimp only
      rw [if_pos rfl, hC]
    · exact .inr ⟨.inr (by omega), bad (joins_over a1 b1 hz (by omega))⟩
  · exact .inr ⟨.inl (by omega), bad (joins_size (by omega))⟩
end Go.Proofs.YtmpfbjmaiddigaaGreatDoor
