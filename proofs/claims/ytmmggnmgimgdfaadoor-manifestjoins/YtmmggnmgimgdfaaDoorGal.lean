/- Sources one behind the other: too many tokens; what both are read as. Sources one behind the other: forms. The numbers by which the library's contracts on strings.Cut and strings.Split stand over this program. The lines of a text of vocabularies, and what they are read as: plain functions; strings.Cut and strings.Split. The lines of a text, one at each call: lines, and what it answers. The names behind a word, and the definition that a line is. -/
import Derived.Test.YtmmggnmgimgdfaaDoorGaj
import Derived.Test.YtmmggnmgimgdfaaDoorGak
import Derived.Shelf.Strings.SplitShaped
import Derived.Shelf.Strings.Shaped
import Derived.Test.YtmmggnmgimgdfaaDoorProg
import Derived.Test.YtmmggnmgimgdfaaDoorGac
import Derived.Test.YtmmggnmgimgdfaaDoorGaa
import Derived.Test.YtmmggnmgimgdfaaDoorGab
namespace Go.Proofs.YtmmggnmgimgdfaaDoor
open Go.RowKit
set_option linter.unusedSimpArgs false
set_option linter.unusedVariables false
theorem tokH_full {s : ByteArray} {a : Nat} {acc : List Tok} (h : a < s.size) (h0 : (redR s a).2.2 = 0) (h1 : acc.length = 4096) : tokH s a acc = ([], a, 11) := by
  unfold tokH tokG
  rw [if_pos h, if_pos h0, if_pos h1]
theorem tok_over {s S : ByteArray} {y : List Nat} {d : Nat} (hy : Ynl y) : ∀ (n : Nat) (q : List Nat) (a : Nat) (acc' : List Tok), q.length ≤ n → Sfx s q a → Sfx S (q ++ y) (a + d) → (tokH s (bg s a) acc').2.2 = 0 →
    ∃ R, (tokH s (bg s a) acc').1 = acc' ++ R ∧ ∀ acc : List Tok, acc.length ≤ 4096 → 4096 < acc.length + R.length → (tokH S (bg S (a + d)) acc).2.2 = 11 := by
  intro n
  induction n with
  | zero =>
    intro q a acc' hn h g hz
    obtain rfl : q = [] := List.eq_nil_of_length_eq_zero (by omega)
    have hb : Sfx s [] (bg s a) := bg_sfx h
    have hs := h.size
    have hbs := hb.size
    rw [wl_nil] at hs hbs
    refine ⟨[], by rw [tokH_end _ (by omega)]; simp, fun acc h1 h2 => ?_⟩
    simp only [List.length_nil] at h2
    omega
  | succ n ih =>
    intro q a acc' hn h g hz
    have hb := bg_sfx h
    have gb := bg_sfx g
    rw [SK_ext y hy _ q (Nat.le_refl _)] at gb
    have hs := h.size
    have gs := g.size
    have hbs := hb.size
    cases hr : SK q with
    | nil =>
      rw [hr, wl_nil] at hbs
      refine ⟨[], by rw [tokH_end _ (by omega)]; simp, fun acc h1 h2 => ?_⟩
      simp only [List.length_nil] at h2
      omega
    | cons c r =>
      rw [hr] at hb hbs
      rw [hr, if_neg (by simp)] at gb
      have gbs := gb.size
      have hw := wr_pos c
      rw [wl_cons] at hbs
      rw [wl_app, wl_cons] at gbs
      rw [wl_app] at gs
      have epos : bg S (a + d) = bg s a + d := by omega
      have hlt : bg s a < s.size := by omega
      obtain ⟨z1, z2⟩ := tokH_ok hlt hz
      rw [tokH_go hlt z1 z2] at hz ⊢
      rw [epos] at gb ⊢
      have hsame := red_same (by simp) hy hb gb z1
      obtain ⟨m, q', em, hm, hp⟩ := red_sfx (by simp) hb z1
      have hb' : Sfx s q' (redR s (bg s a)).2.1 := by rw [hp]; rw [em] at hb; exact hb.drop
      have gb' : Sfx S (q' ++ y) ((redR s (bg s a)).2.1 + d) := by
        rw [em, List.append_assoc] at gb
        have := gb.drop
        rw [hp]
        rwa [show bg s a + d + wl m = bg s a + wl m + d by omega] at this
      have hl : q'.length ≤ n := by
        have h1 := SK_len q
        rw [hr, em, List.length_append] at h1
        have := List.length_pos_iff.2 hm
        omega
      obtain ⟨R, e1, e2⟩ := ih q' _ _ hl hb' gb' hz
      refine ⟨(redR s (bg s a)).1 :: R, by rw [e1]; simp, fun acc h1 h2 => ?_⟩
      rw [List.length_cons] at h2
      have hz2 : (redR S (bg s a + d)).2.2 = 0 := by rw [hsame]; exact z1
      have hlt2 : bg s a + d < S.size := by omega
      by_cases h4 : acc.length = 4096
      · rw [tokH_full hlt2 hz2 h4]
      · rw [tokH_go hlt2 hz2 h4, hsame]
        exact e2 (acc ++ [shT d (redR s (bg s a)).1]) (by rw [List.length_append]; simp; omega) (by rw [List.length_append]; simp; omega)
theorem joins_over {s t : ByteArray} (h1 : (tokR s).2.2 = 0) (h2 : (tokR t).2.2 = 0) (hz : s.size + t.size < 65536) (hn : 4096 < (tokR s).1.length + (tokR t).1.length) : (tokR (s ++ ⟨#[10]⟩ ++ t)).2.2 = 11 := by
  obtain ⟨_, l, hl, e1⟩ := tokR_ok h1
  obtain ⟨z2, x, hx, e2⟩ := tokR_ok h2
  have e : s ++ ⟨#[10]⟩ ++ t = tx (l ++ 10 :: x) := by
    rw [e1, e2, show (⟨#[10]⟩ : ByteArray) = tx [10] from rfl, tx_app, tx_app, List.append_assoc]
    rfl
  have ht : t.size = wl x := by rw [e2, tx_size]
  have hs : s.size = wl l := by rw [e1, tx_size]
  have hm := tok_more hl hx e1 h1 (by omega)
  rw [e, hm]
  have hv : VL (l ++ 10 :: x) := by
    intro c hc
    rcases List.mem_append.1 hc with hc | hc
    · exact hl c hc
    · rcases List.mem_cons.1 hc with rfl | hc
      · exact .inl (by decide)
      · exact hx c hc
  have e3 : tokR t = tokH t (bg t 0) [] := by
    rw [e2]
    exact tokR_h (by rw [← e2]; exact z2) (stR_tx hx)
  have gx : Sfx (tx (l ++ 10 :: x)) (x ++ []) (0 + (s.size + 1)) := by
    have : Sfx (tx (l ++ 10 :: x)) (l ++ 10 :: x) 0 := sfx_all hv
    have := this.drop.tail
    rw [List.append_nil, Nat.zero_add, hs]
    rwa [Nat.zero_add, show wr 10 = 1 from rfl] at this
  rw [e3] at h2 hn
  obtain ⟨R, r1, r2⟩ := tok_over (d := s.size + 1) (.inl rfl) x.length x 0 [] (Nat.le_refl _) (by rw [e2]; exact sfx_all hx) gx h2
  rw [List.nil_append] at r1
  rw [r1] at hn
  have := r2 (tokR s).1 (tokR_len s) hn
  rw [Nat.zero_add] at this
  exact this
theorem joins_size {s t : ByteArray} (hz : 65536 ≤ s.size + t.size) : (tokR (s ++ ⟨#[10]⟩ ++ t)).2.2 = 11 := by
  have : (s ++ ⟨#[10]⟩ ++ t).size = s.size + 1 + t.size := by rw [ByteArray.size_append, ByteArray.size_append]; rfl
  unfold tokR
  rw [if_pos (by omega)]
/-- a reader gives up for a reason -/
theorem prs_err (n : Int) : ∀ f m q o z a e, prs n f m q o z = .error (a, e) → z ≤ 1024 → 3 * q.length + 1 + min m 2 ≤ f → e = 9 ∨ e = 11 := by
  intro f
  induction f with
  | zero => intro m q o z a e h _ hf; omega
  | succ f ih =>
    intro m q o z a e h hz hf
    match m with
    | 0 =>
      cases q with
      | nil => simp only [prs, Except.error.injEq, Prod.mk.injEq] at h; omega
      | cons t q =>
        simp only [prs] at h
        simp only [List.length_cons] at hf
        repeat' split at h
        all_goals first
          | (simp only [Except.error.injEq, Prod.mk.injEq] at h; omega)
          | (simp at h; done)
          | skip
        all_goals
          rename_i hp
          simp only [Except.error.injEq] at h
          subst h
          exact ih _ _ _ _ _ _ hp (by omega) (by omega)
    | 1 =>
      cases q with
      | nil => simp only [prs, Except.error.injEq, Prod.mk.injEq] at h; omega
      | cons t q =>
        simp only [prs] at h
        repeat' split at h
        · simp only [Except.error.injEq, Prod.mk.injEq] at h; omega
        · simp at h
        · exact ih _ _ _ _ _ _ h hz (by omega)
    | m + 2 =>
      cases q with
      | nil => simp only [prs, Except.error.injEq, Prod.mk.injEq] at h; omega
      | cons t q =>
        simp only [prs] at h
        split at h
        · simp at h
        · split at h
          · rename_i e' hp
            simp only [Except.error.injEq] at h
            subst h
            exact ih _ _ _ _ _ _ hp hz (by omega)
          · rename_i l1 r1 z1 hp
            have h1 := prs_ok n _ _ _ _ _ _ _ _ hp hz
            split at h
            · rename_i e' hp2
              simp only [Except.error.injEq] at h
              subst h
              exact ih _ _ _ _ _ _ hp2 (by omega) (by omega)
            · simp at h
theorem sdR_err (n : Int) (w : ByteArray) : ∀ (k : Nat) (q : List Tok) (a e : Int), sdR n w k q = .error (a, e) → e = 9 ∨ e = 11
  | k, [], a, e, h => by simp only [sdR, Except.error.injEq, Prod.mk.injEq] at h; omega
  | k, t :: q, a, e, h => by
    simp only [sdR] at h
    repeat' split at h
    · simp at h
    · simp only [Except.error.injEq, Prod.mk.injEq] at h; omega
    · exact sdR_err n w (k + 1) q a e h
    · simp only [Except.error.injEq, Prod.mk.injEq] at h; omega
end Go.Proofs.YtmmggnmgimgdfaaDoor
namespace Go.Proofs.YtmmggnmgimgdfaaDoor
open Go.RowKit
set_option linter.unusedSimpArgs false
set_option linter.unusedVariables false
/-- a form whose lists are small -/
def Wff (fm : Fm) : Prop := fm.b.length ≤ 4096 ∧ (∃ e, WfT e (bdT fm)) ∧ ∃ e, WfT e fm.it
theorem wf_no : WfT 1 noT := ⟨Nat.zero_le _, fun x hx => by simp [noT] at hx⟩
theorem Wff.wfm {fm : Fm} (h : Wff fm) : Wfm fm := by
  obtain ⟨h1, ⟨e, h2⟩, h3⟩ := h
  refine ⟨h1, fun x hx => ?_, fun _ => h3⟩
  cases e with
  | zero => exact h2.elim
  | succ e => exact ⟨e, h2.2 x hx⟩
theorem dfR_wf {n : Int} {f : Nat} {q : List Tok} {o z : Int} {fm : Fm} {r : List Tok} {z' : Int} (hz : z ≤ 1024) (hq : q.length ≤ 4096) (h : dfR n f q o z = .ok (fm, r, z')) : Wff fm := by
  cases q with
  | nil => simp [dfR] at h
  | cons t0 q1 =>
    simp only [dfR] at h
    split at h
    · simp at h
    · rename_i hf
      cases q1 with
      | nil => simp [dfN] at h
      | cons t1 q2 =>
        simp only [dfN] at h
        split at h
        · simp at h
        · cases q2 with
          | nil => simp [dfQ] at h
          | cons t2 q3 =>
            simp only [dfQ] at h
            split at h
            · simp at h
            · unfold dfA at h
              split at h
              · simp at h
              · rename_i i q4 h4
                unfold dfB at h
                split at h
                · simp at h
                · rename_i j q5 h5
                  unfold dfC at h
                  split at h
                  · simp at h
                  · rename_i l q6 z6 h6
                    simp only [Except.ok.injEq, Prod.mk.injEq] at h
                    obtain ⟨rfl, _, _⟩ := h
                    have a4 := (sdR_len n _ _ _ _ _ h4).1
                    have a5 := (sdR_len n _ _ _ _ _ h5).1
                    have a6 := prs_ok n _ _ _ _ _ _ _ _ h6 (by omega)
                    simp only [List.length_cons] at hq
                    have a7 := prs_wf n _ _ _ _ _ _ _ _ h6 (by omega) (by omega)
                    exact ⟨by dsimp only; omega, ⟨f + 1, by dsimp only [bdT]; omega, a7⟩, ⟨1, wf_no⟩⟩
theorem fmR_wf {n : Int} {f : Nat} {q : List Tok} {o z : Int} {fm : Fm} {r : List Tok} {z' : Int} (hz : z ≤ 1024) (hq : q.length ≤ 4096) (h : fmR n f q o z = .ok (fm, r, z')) : Wff fm := by
  cases q with
  | nil => simp [fmR] at h
  | cons t q =>
    simp only [fmR] at h
    split at h
    · exact dfR_wf hz hq h
    · split at h
      · simp at h
      · rename_i l q' z'' hp
        simp only [Except.ok.injEq, Prod.mk.injEq] at h
        obtain ⟨rfl, _, _⟩ := h
        have a6 := (prs_ok n _ _ _ _ _ _ _ _ hp hz).2.2.2.1 (by omega)
        have a7 := prs_wf n _ _ _ _ _ _ _ _ hp hz hq
        match l, a6 with
        | [x], _ => exact ⟨Nat.zero_le _, ⟨1, Nat.zero_le _, fun x hx => by simp [bdT] at hx⟩, ⟨f, a7 x (by simp)⟩⟩
theorem alR_wf (n : Int) (F : Nat) : ∀ (g : Nat) (q : List Tok) (l : List Fm), q.length ≤ 4096 → alR n F g q = .ok l → l.length ≤ q.length ∧ ∀ fm ∈ l, Wff fm
  | 0, _, _, _, h => by simp [alR] at h
  | g + 1, [], l, _, h => by
    simp only [alR, Except.ok.injEq] at h
    subst h
    exact ⟨Nat.le_refl _, fun fm hf => by simp at hf⟩
  | g + 1, t :: r, l, hl, h => by
    simp only [alR] at h
    cases hf : fmR n F (t :: r) 0 0 with
    | error e => rw [hf] at h; simp at h
    | ok p =>
      obtain ⟨fm, q, z⟩ := p
      rw [hf] at h
      dsimp only at h
      cases ha : alR n F g q with
      | error e => rw [ha] at h; simp at h
      | ok l1 =>
        rw [ha] at h
        simp only [Except.ok.injEq] at h
        subst h
        have h1 := fmR_len (by omega) hf
        have h2 := fmR_wf (by omega) hl hf
        obtain ⟨h3, h4⟩ := alR_wf n F g q l1 (by omega) ha
        refine ⟨by simp only [List.length_cons] at *; omega, fun x hx => ?_⟩
        rcases List.mem_cons.1 hx with rfl | hx
        · exact h2
        · exact h4 x hx
theorem dfR_err {n : Int} {f : Nat} {q : List Tok} {o z : Int} {a e : Int} (hz : z ≤ 1024) (hf : 3 * q.length + 3 ≤ f) (h : dfR n f q o z = .error (a, e)) : e = 9 ∨ e = 11 := by
  cases q with
  | nil => simp only [dfR, Except.error.injEq, Prod.mk.injEq] at h; omega
  | cons t0 q1 =>
    simp only [dfR] at h
    simp only [List.length_cons] at hf
    split at h
    · simp only [Except.error.injEq, Prod.mk.injEq] at h; omega
    · cases q1 with
      | nil => simp only [dfN, Except.error.injEq, Prod.mk.injEq] at h; omega
      | cons t1 q2 =>
        simp only [dfN] at h
        split at h
        · simp only [Except.error.injEq, Prod.mk.injEq] at h; omega
        · cases q2 with
          | nil => simp only [dfQ, Except.error.injEq, Prod.mk.injEq] at h; omega
          | cons t2 q3 =>
            simp only [dfQ] at h
            simp only [List.length_cons] at hf
            split at h
            · simp only [Except.error.injEq, Prod.mk.injEq] at h; omega
            · unfold dfA at h
              split at h
              · rename_i e' h4
                simp only [Except.error.injEq] at h
                subst h
                exact sdR_err n _ _ _ _ _ h4
              · rename_i i q4 h4
                unfold dfB at h
                split at h
                · rename_i e' h5
                  simp only [Except.error.injEq] at h
                  subst h
                  exact sdR_err n _ _ _ _ _ h5
                · rename_i j q5 h5
                  unfold dfC at h
                  have a4 := (sdR_len n _ _ _ _ _ h4).1
                  have a5 := (sdR_len n _ _ _ _ _ h5).1
                  split at h
                  · rename_i e' h6
                    simp only [Except.error.injEq] at h
                    subst h
                    exact prs_err n _ _ _ _ _ _ _ h6 (by omega) (by omega)
                  · simp at h
theorem fmR_err {n : Int} {f : Nat} {q : List Tok} {o z : Int} {a e : Int} (hz : z ≤ 1024) (hf : 3 * q.length + 3 ≤ f) (h : fmR n f q o z = .error (a, e)) : e = 9 ∨ e = 11 := by
  cases q with
  | nil => simp only [fmR, Except.error.injEq, Prod.mk.injEq] at h; omega
  | cons t q =>
    simp only [fmR] at h
    split at h
    · exact dfR_err hz hf h
    · split at h
      · rename_i e' hp
        simp only [Except.error.injEq] at h
        subst h
        exact prs_err n _ _ _ _ _ _ _ hp hz (by omega)
      · simp at h
theorem alR_err (n : Int) (F : Nat) : ∀ (g : Nat) (q : List Tok) (a e : Int), q.length < g → 3 * q.length + 3 ≤ F → alR n F g q = .error (a, e) → e = 9 ∨ e = 11
  | 0, _, _, _, h, _, _ => by omega
  | g + 1, [], a, e, _, _, h => by simp [alR] at h
  | g + 1, t :: r, a, e, hl, hF, h => by
    simp only [alR] at h
    cases hf : fmR n F (t :: r) 0 0 with
    | error p =>
      rw [hf] at h
      simp only [Except.error.injEq] at h
      subst h
      exact fmR_err (by omega) hF hf
    | ok p =>
      obtain ⟨fm, q, z⟩ := p
      have h1 := fmR_len (by omega) hf
      rw [hf] at h
      dsimp only at h
      simp only [List.length_cons] at hl hF h1
      cases ha : alR n F g q with
      | error p =>
        rw [ha] at h
        simp only [Except.error.injEq] at h
        subst h
        exact alR_err n F g q a e (by omega) (by omega) ha
      | ok l1 => rw [ha] at h; simp at h
/-- a source that is read -/
theorem parR_ok {s : ByteArray} (h : (parR s).2.2 = 0) : (tokR s).2.2 = 0 ∧ alR (s.size : Int) 12400 ((tokR s).1.length + 1) (tokR s).1 = .ok (parR s).1 ∧ (parR s).2.1 = 0 := by
  unfold parR at h ⊢
  by_cases h0 : (tokR s).2.2 = 0
  · rw [if_pos h0] at h ⊢
    cases ha : alR (s.size : Int) 12400 ((tokR s).1.length + 1) (tokR s).1 with
    | error p =>
      obtain ⟨a, e⟩ := p
      rw [ha] at h
      have := alR_err _ _ _ _ a e (by omega) (by have := tokR_len s; omega) ha
      dsimp only at h
      omega
    | ok l => exact ⟨h0, rfl, rfl⟩
  · rw [if_neg h0] at h
    exact absurd h h0
theorem parR_bad {s : ByteArray} (h : ¬ (parR s).2.2 = 0) : (parR s).1 = [] := by
  unfold parR at h ⊢
  split
  · rename_i h0
    rw [if_pos h0] at h
    cases ha : alR (s.size : Int) 12400 ((tokR s).1.length + 1) (tokR s).1 with
    | error p => rfl
    | ok l => rw [ha] at h; exact absurd rfl h
  · rfl
theorem parR_wf {s : ByteArray} : (parR s).1.length ≤ 4096 ∧ ∀ fm ∈ (parR s).1, Wff fm := by
  by_cases h : (parR s).2.2 = 0
  · obtain ⟨h0, h1, _⟩ := parR_ok h
    have hl := tokR_len s
    obtain ⟨h2, h3⟩ := alR_wf _ _ _ _ _ hl h1
    exact ⟨by omega, h3⟩
  · rw [parR_bad h]
    exact ⟨Nat.zero_le _, fun fm hf => by simp at hf⟩
/-- two sources, one on each line -/
theorem pjoin {s t : ByteArray} (h1 : (parR s).2.2 = 0) (h2 : (parR t).2.2 = 0) :
    ((s.size + t.size < 65536 ∧ (tokR s).1.length + (tokR t).1.length ≤ 4096) ∧ parR (s ++ ⟨#[10]⟩ ++ t) = ((parR s).1 ++ (parR t).1, 0, 0)) ∨ ((65536 ≤ s.size + t.size ∨ 4096 < (tokR s).1.length + (tokR t).1.length) ∧ (parR (s ++ ⟨#[10]⟩ ++ t)).2.2 = 11) := by
  obtain ⟨a1, a2, _⟩ := parR_ok h1
  obtain ⟨b1, b2, _⟩ := parR_ok h2
  have bad : (tokR (s ++ ⟨#[10]⟩ ++ t)).2.2 = 11 → (parR (s ++ ⟨#[10]⟩ ++ t)).2.2 = 11 := by
    intro h
    unfold parR
    rw [if_neg (by rw [h]; omega)]
    exact h
  by_cases hz : s.size + t.size < 65536
  · by_cases hn : (tokR s).1.length + (tokR t).1.length ≤ 4096
    · refine .inl ⟨⟨hz, hn⟩, ?_⟩
      have hj := joins_pure a1 b1 hz hn
      obtain ⟨J, hJ⟩ : ∃ J, J = s ++ ⟨#[10]⟩ ++ t := ⟨_, rfl⟩
      rw [← hJ] at hj ⊢
      have hB : alR (J.size : Int) 12400 ((tokR t).1.length + 1) ((tokR t).1.map (shT (s.size + 1))) = .ok (parR t).1 := by
        have := alR_join (t.size : Int) (J.size : Int) 12400 (s.size + 1) [] [] 1 rfl (by simp) ((tokR t).1.length + 1) (tokR t).1 (parR t).1 (by omega) b2
        rw [List.append_nil, List.append_nil] at this
        rw [← this]
        exact alR_fuel _ _ _ _ _ (by simp) (by simp; omega)
      have hA := alR_join (s.size : Int) (J.size : Int) 12400 0 ((tokR t).1.map (shT (s.size + 1))) (parR t).1 ((tokR t).1.length + 1) hB (by simp) ((tokR s).1.length + 1) (tokR s).1 (parR s).1 (by omega) a2
      rw [sh_map0] at hA
      have hC : alR (J.size : Int) 12400 (((tokR s).1 ++ (tokR t).1.map (shT (s.size + 1))).length + 1) ((tokR s).1 ++ (tokR t).1.map (shT (s.size + 1))) = .ok ((parR s).1 ++ (parR t).1) := by
        rw [← hA]
        exact alR_fuel _ _ _ _ _ (by omega) (by simp; omega)
      unfold parR at hC ⊢
      rw [hj]
      dsimp only
      rw [if_pos rfl, hC]
    · exact .inr ⟨.inr (by omega), bad (joins_over a1 b1 hz (by omega))⟩
  · exact .inr ⟨.inl (by omega), bad (joins_size (by omega))⟩
end Go.Proofs.YtmmggnmgimgdfaaDoor
namespace Go.Proofs
open Go.Shelf
def Tryd.laysCut_ren : Go.Shelf.Ren := ⟨fun | 145 => 14 | 220 => 19 | 219 => 27 | 217 => 36 | 225 => 37 | 224 => 38 | 267 => 39 | 266 => 54 | 314 => 55 | n => n, fun | 9 => 9 | 4 => 4 | 59 => 55 | 3 => 3 | 5 => 5 | 46 => 96 | 146 => 130 | 51 => 129 | n => n, fun | 1 => 0 | n => n⟩
theorem Tryd.laysCut : Go.Proofs.LaysM.n145 Tryd.prog Tryd.laysCut_ren := {
  mixed := by kernel_rfl
  f145 := Tryd.func14.trans (congrArg some (by kernel_rfl))
  f217 := Tryd.func36.trans (congrArg some (by kernel_rfl))
  f219 := Tryd.func27.trans (congrArg some (by kernel_rfl))
  f220 := Tryd.func19.trans (congrArg some (by kernel_rfl))
  f224 := Tryd.func38.trans (congrArg some (by kernel_rfl))
  f225 := Tryd.func37.trans (congrArg some (by kernel_rfl))
  f266 := Tryd.func54.trans (congrArg some (by kernel_rfl))
  f267 := Tryd.func39.trans (congrArg some (by kernel_rfl))
  f314 := Tryd.func55.trans (congrArg some (by kernel_rfl))
  t3 := Tryd.underlying3
  a3 := Tryd.isAgg3
  z3 := Tryd.sizeOf3
  v3 := Tryd.zeroValue3
  t4 := Tryd.underlying4
  a4 := Tryd.isAgg4
  z4 := Tryd.sizeOf4
  v4 := Tryd.zeroValue4
  t5 := Tryd.underlying5
  a5 := Tryd.isAgg5
  z5 := Tryd.sizeOf5
  v5 := Tryd.zeroValue5
  t9 := Tryd.underlying9
  a9 := Tryd.isAgg9
  z9 := Tryd.sizeOf9
  v9 := Tryd.zeroValue9
  t46 := Tryd.underlying96
  a46 := Tryd.isAgg96
  z46 := Tryd.sizeOf96
  v46 := Tryd.zeroValue96
  t51 := Tryd.underlying129
  a51 := Tryd.isAgg129
  z51 := Tryd.sizeOf129
  v51 := Tryd.zeroValue129
  t59 := Tryd.underlying55
  a59 := Tryd.isAgg55
  z59 := Tryd.sizeOf55
  v59 := Tryd.zeroValue55
  t146 := Tryd.underlying130
  a146 := Tryd.isAgg130
  z146 := Tryd.sizeOf130
  v146 := Tryd.zeroValue130
  g1 := by kernel_rfl
  i3 := by kernel_rfl
  i4 := by kernel_rfl
  i5 := by kernel_rfl
  i9 := by kernel_rfl
  i46 := by kernel_rfl
  i51 := by kernel_rfl
  i59 := by kernel_rfl
  i146 := by kernel_rfl
  m1 := by kernel_rfl
  s1_3 := fun w h => Go.Proofs.cell_of_shapedOpen_int (zero := #[.int .i64 0]) (t := 3) h (of_decide_eq_true (by kernel_rfl)) (by kernel_rfl) rfl (by kernel_rfl) (by kernel_rfl) Tryd.underlying3 }
def Tryd.laysSplit_ren : Go.Shelf.Ren := ⟨fun | 146 => 21 | 221 => 29 | 268 => 41 | 138 => 42 | 143 => 43 | 195 => 56 | 197 => 57 | 218 => 58 | 219 => 27 | 260 => 74 | 217 => 36 | 225 => 37 | 224 => 38 | 267 => 39 | 266 => 54 | 314 => 55 | n => n, fun | 9 => 9 | 31 => 31 | 3 => 3 | 4 => 4 | 0 => 0 | 105 => 133 | 21 => 21 | 5 => 5 | 46 => 96 | 119 => 154 | 139 => 157 | 138 => 156 | 146 => 130 | 51 => 129 | n => n, fun | 1 => 0 | 3 => 2 | 4 => 3 | n => n⟩
theorem Tryd.laysSplit : Go.Proofs.LaysM.n146 Tryd.prog Tryd.laysSplit_ren := {
  mixed := by kernel_rfl
  f138 := Tryd.func42.trans (congrArg some (by kernel_rfl))
  f143 := Tryd.func43.trans (congrArg some (by kernel_rfl))
  f146 := Tryd.func21.trans (congrArg some (by kernel_rfl))
  f195 := Tryd.func56.trans (congrArg some (by kernel_rfl))
  f197 := Tryd.func57.trans (congrArg some (by kernel_rfl))
  f217 := Tryd.func36.trans (congrArg some (by kernel_rfl))
  f218 := Tryd.func58.trans (congrArg some (by kernel_rfl))
  f219 := Tryd.func27.trans (congrArg some (by kernel_rfl))
  f221 := Tryd.func29.trans (congrArg some (by kernel_rfl))
  f224 := Tryd.func38.trans (congrArg some (by kernel_rfl))
  f225 := Tryd.func37.trans (congrArg some (by kernel_rfl))
  f260 := Tryd.func74.trans (congrArg some (by kernel_rfl))
  f266 := Tryd.func54.trans (congrArg some (by kernel_rfl))
  f267 := Tryd.func39.trans (congrArg some (by kernel_rfl))
  f268 := Tryd.func41.trans (congrArg some (by kernel_rfl))
  f314 := Tryd.func55.trans (congrArg some (by kernel_rfl))
  t0 := Tryd.underlying0
  a0 := Tryd.isAgg0
  z0 := Tryd.sizeOf0
  v0 := Tryd.zeroValue0
  t3 := Tryd.underlying3
  a3 := Tryd.isAgg3
  z3 := Tryd.sizeOf3
  v3 := Tryd.zeroValue3
  t4 := Tryd.underlying4
  a4 := Tryd.isAgg4
  z4 := Tryd.sizeOf4
  v4 := Tryd.zeroValue4
  t5 := Tryd.underlying5
  a5 := Tryd.isAgg5
  z5 := Tryd.sizeOf5
  v5 := Tryd.zeroValue5
  t9 := Tryd.underlying9
  a9 := Tryd.isAgg9
  z9 := Tryd.sizeOf9
  v9 := Tryd.zeroValue9
  t21 := Tryd.underlying21
  a21 := Tryd.isAgg21
  z21 := Tryd.sizeOf21
  v21 := Tryd.zeroValue21
  t31 := Tryd.underlying31
  a31 := Tryd.isAgg31
  z31 := Tryd.sizeOf31
  v31 := Tryd.zeroValue31
  t46 := Tryd.underlying96
  a46 := Tryd.isAgg96
  z46 := Tryd.sizeOf96
  v46 := Tryd.zeroValue96
  t51 := Tryd.underlying129
  a51 := Tryd.isAgg129
  z51 := Tryd.sizeOf129
  v51 := Tryd.zeroValue129
  t105 := Tryd.underlying133
  a105 := Tryd.isAgg133
  z105 := Tryd.sizeOf133
  v105 := Tryd.zeroValue133
  t119 := Tryd.underlying154
  a119 := Tryd.isAgg154
  z119 := Tryd.sizeOf154
  t138 := Tryd.underlying156
  a138 := Tryd.isAgg156
  z138 := Tryd.sizeOf156
  v138 := Tryd.zeroValue156
  t139 := Tryd.underlying157
  a139 := Tryd.isAgg157
  z139 := Tryd.sizeOf157
  v139 := Tryd.zeroValue157
  t146 := Tryd.underlying130
  a146 := Tryd.isAgg130
  z146 := Tryd.sizeOf130
  v146 := Tryd.zeroValue130
  g1 := by kernel_rfl
  g3 := by kernel_rfl
  g4 := by kernel_rfl
  i0 := by kernel_rfl
  i3 := by kernel_rfl
  i4 := by kernel_rfl
  i5 := by kernel_rfl
  i9 := by kernel_rfl
  i21 := by kernel_rfl
  i31 := by kernel_rfl
  i46 := by kernel_rfl
  i51 := by kernel_rfl
  i105 := by kernel_rfl
  i138 := by kernel_rfl
  i139 := by kernel_rfl
  i146 := by kernel_rfl
  m1 := by kernel_rfl
  s1_3 := fun w h => Go.Proofs.cell_of_shapedOpen_int (zero := #[.int .i64 0]) (t := 3) h (of_decide_eq_true (by kernel_rfl)) (by kernel_rfl) rfl (by kernel_rfl) (by kernel_rfl) Tryd.underlying3
  m3 := by kernel_rfl
  m4 := by kernel_rfl }
end Go.Proofs
namespace Go.Proofs.YtmmggnmgimgdfaaDoor
open Go.RowKit
set_option linter.unusedSimpArgs false
set_option linter.unusedVariables false
/-- the package's variable on long texts is some number -/
def Mxl (w : World) : Prop := ∃ m, w.cell? ⟨0, 0, none⟩ = some (.int .i64 m)
theorem Mxl.frame {w w' : World} (h : Mxl w) (o : Only (fun _ => False) w w') : Mxl w' := by
  obtain ⟨m, hm⟩ := h
  exact ⟨m, o.cell hm (fun g => g)⟩
theorem only_drewN (w : World) (n : Nat) : Only (fun _ => False) w (w.drewN n) := by
  have o : Only (fun _ => False) w w := Only.refl _ w
  exact ⟨o.os, o.tape, o.output, o.size, o.block⟩
theorem cut_any (s sep : ByteArray) (w : World) (hs : s.size < 4294967281) (h : Mxl w) :
    Calls Tryd.prog 14 #[.string s, .string sep] w fun e w' => e = .returned (.tuple #[.string ⟨(Lib.cut s.data.toList sep.data.toList).1.toArray⟩, .string ⟨(Lib.cut s.data.toList sep.data.toList).2.1.toArray⟩, .bool (Lib.cut s.data.toList sep.data.toList).2.2]) ∧ Only (fun _ => False) w w' := by
  obtain ⟨m, hm⟩ := h
  exact (Any.strings_Cut { Tryd.laysCut with } s sep m w hs hm).mono fun e w' g => by
    obtain ⟨he, n, hw⟩ := g
    exact ⟨he, by rw [hw]; exact only_drewN w n⟩
/-- the pieces of a text between blanks -/
def pcs (s : ByteArray) : List ByteArray := Lib.splitB ⟨#[32]⟩ 0 (Lib.countB s ⟨#[32]⟩) s
theorem pcs_len (s : ByteArray) : (pcs s).length = Lib.countB s ⟨#[32]⟩ + 1 := Lib.splitB_all ⟨#[32]⟩ (by decide) 0 _ s rfl
theorem split_any (s : ByteArray) (w : World) (hs : s.size < 4294967281) (h : Mxl w) :
    Calls Tryd.prog 21 #[.string s, .string ⟨#[32]⟩] w fun e w' => e = .returned (.slice (some ⟨w.heap.size, 0, none⟩) (pcs s).length (pcs s).length) ∧ w' = w.alloc (.cells ((pcs s).map Value.string).toArray 9) := by
  obtain ⟨m, hm⟩ := h
  have := Any.strings_Split { Tryd.laysSplit with } Tryd.laysSplit.i9 s ⟨#[32]⟩ m w hs hm (by decide)
  rw [← pcs_len s] at this
  exact this
theorem cut_nil : Lib.cut [] [10] = ([], [], false) := rfl
theorem cut_hit (r : List UInt8) : Lib.cut (10 :: r) [10] = ([], r, true) := by
  simp [Lib.cut, Lib.index, List.isPrefixOf]
theorem cut_next (c : UInt8) (r : List UInt8) (h : c ≠ 10) : Lib.cut (c :: r) [10] = if (Lib.cut r [10]).2.2 then (c :: (Lib.cut r [10]).1, (Lib.cut r [10]).2.1, true) else (c :: r, [], false) := by
  have h1 : ((10 : UInt8) == c) = false := by simpa using Ne.symm h
  have hg := Lib.index_ge r [10]
  have e : Lib.index (c :: r) [10] = if Lib.index r [10] == -1 then -1 else Lib.index r [10] + 1 := by
    show (if List.isPrefixOf [10] (c :: r) then (0 : Int) else _) = _
    rw [if_neg (by simp [List.isPrefixOf, h1])]
  unfold Lib.cut
  rw [e]
  by_cases h2 : Lib.index r [10] = -1
  · rw [h2]
    simp
  · obtain ⟨i, hi⟩ : ∃ i : Nat, Lib.index r [10] = i := ⟨(Lib.index r [10]).toNat, by omega⟩
    rw [hi]
    have h3 : ((i : Int) == -1) = false := by rw [beq_eq_false_iff_ne]; omega
    rw [h3]
    have h4 : (0 : Int) ≤ (i : Int) + 1 := by omega
    have h5 : (0 : Int) ≤ (i : Int) := by omega
    have h6 : ((i : Int) + 1).toNat = i + 1 := by omega
    have h7 : i + 1 + 1 = (i + 1) + 1 := rfl
    simp [h4, h5, h6]
/-- the lines of a text that are ended, each with its number, but for the empty ones; the number of what stands behind, and is that nothing? (a: what was read of the line) -/
def linS : List UInt8 → List UInt8 → Nat → List (Nat × List UInt8) × Nat × Bool
  | [], a, n => ([], n + 1, decide (a = []))
  | c :: r, a, n => if c = 10 then (if a = [] then linS r [] (n + 1) else ((n + 1, a) :: (linS r [] (n + 1)).1, (linS r [] (n + 1)).2)) else linS r (a ++ [c]) n
theorem linS_cut : ∀ (r a : List UInt8) (n : Nat), linS r a n = if (Lib.cut r [10]).2.2 then (if a ++ (Lib.cut r [10]).1 = [] then linS (Lib.cut r [10]).2.1 [] (n + 1) else ((n + 1, a ++ (Lib.cut r [10]).1) :: (linS (Lib.cut r [10]).2.1 [] (n + 1)).1, (linS (Lib.cut r [10]).2.1 [] (n + 1)).2)) else ([], n + 1, decide (a ++ r = []))
  | [], a, n => by simp [linS, cut_nil]
  | c :: r, a, n => by
    by_cases h : c = 10
    · subst h
      simp [linS, cut_hit]
    · rw [cut_next c r h]
      simp only [linS, if_neg h]
      rw [linS_cut r (a ++ [c]) n]
      by_cases h2 : (Lib.cut r [10]).2.2 = true
      · simp [h2]
      · simp [h2]
theorem cut_len : ∀ (r : List UInt8), (Lib.cut r [10]).2.2 = true → (Lib.cut r [10]).1.length + (Lib.cut r [10]).2.1.length + 1 = r.length
  | [], h => by simp [cut_nil] at h
  | c :: r, h => by
    by_cases h1 : c = 10
    · subst h1; simp [cut_hit]
    · rw [cut_next c r h1] at h ⊢
      by_cases h2 : (Lib.cut r [10]).2.2 = true
      · have := cut_len r h2
        rw [if_pos h2]
        simp only [List.length_cons]
        omega
      · rw [if_neg h2] at h
        cases h
theorem cut_miss : ∀ (r : List UInt8), (Lib.cut r [10]).2.2 = false → Lib.cut r [10] = (r, [], false)
  | [], _ => rfl
  | c :: r, h => by
    by_cases h1 : c = 10
    · subst h1; simp [cut_hit] at h
    · rw [cut_next c r h1] at h ⊢
      by_cases h2 : (Lib.cut r [10]).2.2 = true
      · rw [if_pos h2] at h; cases h
      · rw [if_neg h2]
/-- bytes as a text -/
def bt (t : List UInt8) : ByteArray := ⟨t.toArray⟩
theorem bt_size (t : List UInt8) : (bt t).size = t.length := by simp [bt, ByteArray.size]
theorem bt_list (t : List UInt8) : (bt t).data.toList = t := by simp [bt]
theorem bt_self (s : ByteArray) : bt s.data.toList = s := by simp [bt]
/-- the names behind a word -/
def nmO (T p : ByteArray) : Option (List ByteArray) := if preB T p then (if (pcs (T.extract p.size T.size)).all nameB then some (pcs (T.extract p.size T.size)) else none) else none
/-- the one definition that a source is -/
def defO (T : ByteArray) : Option Fm := if (parR T).2.2 = 0 then (match (parR T).1 with | [fm] => if fm.d then some fm else none | _ => none) else none
def vocB : ByteArray := ⟨#[118, 111, 99, 97, 98, 32]⟩
def useB : ByteArray := ⟨#[117, 115, 101, 115, 32]⟩
def endB : ByteArray := ⟨#[101, 110, 100]⟩
/-- a vocabulary as text -/
structure Mf where
  nm : ByteArray
  us : List ByteArray
  ds : List Fm
/-- definitions, up to the end -/
def mpD (z : Nat) : List (Nat × List UInt8) → List Fm → Except Nat (List Fm × List (Nat × List UInt8))
  | [], _ => .error z
  | (n, t) :: q, acc => if bt t = endB then .ok (acc, q) else match defO (bt t) with
    | none => .error n
    | some d => mpD z q (acc ++ [d])
def mkU (us : List ByteArray) : Except Nat (List Fm × List (Nat × List UInt8)) → Except Nat (List ByteArray × List Fm × List (Nat × List UInt8))
  | .error k => .error k
  | .ok (ds, q') => .ok (us, ds, q')
def mkM (nm : ByteArray) : Except Nat (List ByteArray × List Fm × List (Nat × List UInt8)) → Except Nat (Mf × List (Nat × List UInt8))
  | .error k => .error k
  | .ok (us, ds, q') => .ok (⟨nm, us, ds⟩, q')
theorem mkU_ok {us us' : List ByteArray} {X : Except Nat (List Fm × List (Nat × List UInt8))} {ds : List Fm} {q' : List (Nat × List UInt8)} (h : mkU us X = .ok (us', ds, q')) : us' = us ∧ X = .ok (ds, q') := by
  cases X with
  | error k => cases h
  | ok p =>
    obtain ⟨d, q⟩ := p
    simp only [mkU, Except.ok.injEq, Prod.mk.injEq] at h
    obtain ⟨rfl, rfl, rfl⟩ := h
    exact ⟨rfl, rfl⟩
theorem mkM_ok {nm : ByteArray} {X : Except Nat (List ByteArray × List Fm × List (Nat × List UInt8))} {m : Mf} {q' : List (Nat × List UInt8)} (h : mkM nm X = .ok (m, q')) : m.nm = nm ∧ X = .ok (m.us, m.ds, q') := by
  cases X with
  | error k => cases h
  | ok p =>
    obtain ⟨u, d, q⟩ := p
    simp only [mkM, Except.ok.injEq, Prod.mk.injEq] at h
    obtain ⟨rfl, rfl⟩ := h
    exact ⟨rfl, rfl⟩
/-- what stands behind a name -/
def mpU (z : Nat) (q : List (Nat × List UInt8)) : Except Nat (List ByteArray × List Fm × List (Nat × List UInt8)) :=
  match q with
  | [] => .error z
  | (n, t) :: q1 => match nmO (bt t) useB with
    | some us => mkU us (mpD z q1 [])
    | none => mkU [] (mpD z ((n, t) :: q1) [])
/-- one vocabulary -/
def mpR (z n : Nat) (t : List UInt8) (q : List (Nat × List UInt8)) : Except Nat (Mf × List (Nat × List UInt8)) :=
  match nmO (bt t) vocB with
  | some [nm] => mkM nm (mpU z q)
  | _ => .error n
def consM (m : Mf) : Except Nat (List Mf) → Except Nat (List Mf)
  | .error k => .error k
  | .ok l => .ok (m :: l)
/-- all of them -/
def mpA (z : Nat) (b : Bool) : Nat → List (Nat × List UInt8) → Except Nat (List Mf)
  | _, [] => if b then .ok [] else .error z
  | 0, _ :: _ => .error 0
  | f + 1, (n, t) :: q => match mpR z n t q with
    | .error k => .error k
    | .ok (m, q') => consM m (mpA z b f q')
def endM : Except Nat (List Mf) → List Mf × Nat × Nat
  | .error k => ([], k, 9)
  | .ok l => (l, 0, 0)
/-- what a text is read as -/
def mpS (s : ByteArray) : List Mf × Nat × Nat :=
  if 65536 < s.size then ([], 0, 11) else endM (mpA (linS s.data.toList [] 0).2.1 (linS s.data.toList [] 0).2.2 (linS s.data.toList [] 0).1.length (linS s.data.toList [] 0).1)
theorem mpD_len (z : Nat) : ∀ (q : List (Nat × List UInt8)) (acc ds : List Fm) (q' : List (Nat × List UInt8)), mpD z q acc = .ok (ds, q') → q'.length < q.length ∧ ds.length + q'.length ≤ acc.length + q.length
  | [], _, _, _, h => by simp [mpD] at h
  | (n, t) :: q, acc, ds, q', h => by
    unfold mpD at h
    split at h
    · simp only [Except.ok.injEq, Prod.mk.injEq] at h
      obtain ⟨rfl, rfl⟩ := h
      simp
    · split at h
      · cases h
      · have := mpD_len z q _ _ _ h
        simp at this ⊢
        omega
theorem mpU_len {z : Nat} {q : List (Nat × List UInt8)} {us : List ByteArray} {ds : List Fm} {q' : List (Nat × List UInt8)} (h : mpU z q = .ok (us, ds, q')) : q'.length < q.length ∧ ds.length ≤ q.length := by
  unfold mpU at h
  split at h
  · cases h
  · split at h
    · have := mpD_len z _ _ _ _ (mkU_ok h).2
      simp at this ⊢
      omega
    · have := mpD_len z _ _ _ _ (mkU_ok h).2
      simp at this ⊢
      omega
theorem mpR_len {z n : Nat} {t : List UInt8} {q : List (Nat × List UInt8)} {m : Mf} {q' : List (Nat × List UInt8)} (h : mpR z n t q = .ok (m, q')) : q'.length < q.length ∧ m.ds.length ≤ q.length := by
  unfold mpR at h
  split at h
  · exact mpU_len (mkM_ok h).2
  · cases h
end Go.Proofs.YtmmggnmgimgdfaaDoor
namespace Go.Proofs.YtmmggnmgimgdfaaDoor
open Go.RowKit
set_option linter.unusedSimpArgs false
set_option linter.unusedVariables false
/-- the closure's two blocks: how many lines were read, and what is left; q: the lines to come -/
def LnS (w : World) (N P : Nat) (q : List (Nat × List UInt8)) (z : Nat) (b : Bool) : Prop := N ≠ P ∧ ∃ n r, w.heap[N]? = some (.cells #[.int .i64 ((n : Nat) : Int)] 3) ∧ w.heap[P]? = some (.cells #[.string (bt r)] 9) ∧ linS r [] n = (q, z, b) ∧ n + r.length ≤ 131072
theorem LnS.only {w w' : World} {N P : Nat} {q : List (Nat × List UInt8)} {z : Nat} {b : Bool} {bs : Nat → Prop} (h : LnS w N P q z b) (o : Only bs w w') (h1 : ¬ bs N) (h2 : ¬ bs P) : LnS w' N P q z b := by
  obtain ⟨hn, n, r, cN, cP, hl⟩ := h
  exact ⟨hn, n, r, (o.block N (Array.getElem?_eq_some_iff.1 cN).1 h1).trans cN, (o.block P (Array.getElem?_eq_some_iff.1 cP).1 h2).trans cP, hl⟩
theorem LnS.lt {w : World} {N P : Nat} {q : List (Nat × List UInt8)} {z : Nat} {b : Bool} (h : LnS w N P q z b) : N < w.heap.size ∧ P < w.heap.size := by
  obtain ⟨_, n, r, cN, cP, _⟩ := h
  exact ⟨(Array.getElem?_eq_some_iff.1 cN).1, (Array.getElem?_eq_some_iff.1 cP).1⟩
/-- how much is left -/
def lnM (w : World) (P : Nat) : Nat := match w.cell? ⟨P, 0, none⟩ with | some (.string s) => s.size | _ => 0
theorem results_line {fn : Func} {u : Tmp} (h : fn.results = #[.cell u 38]) (tmps : Array Value) (w : World) (B : Nat) {x0 x1 x2 : Value} (hb : w.heap[B]? = some (.cells #[x0, x1, x2] 38)) (ha : tmps.getD u undef = .pointer (some ⟨B, 0, none⟩)) :
    (results fn tmps).run Tryd.prog w = .ok (.agg #[x0, x1, x2]) w := by
  have ha' : tmps[u]?.getD undef = .pointer (some ⟨B, 0, none⟩) := by simpa using ha
  have c0 := blk_cells hb 0
  have c1 := blk_cells hb 1
  have c2 := blk_cells hb 2
  simp only [List.getElem?_toArray, List.getElem?_cons_zero, List.getElem?_cons_succ] at c0 c1 c2
  simp [results, h, ha', asAddr, go_sem, loadVar, isAgg, Tryd.underlying38, c0, c1, c2]
theorem lset3 {w : World} {B : Nat} {a b c : Value} {t : TypeId} (h : w.heap[B]? = some (.cells #[a, b, c] t)) (x0 x1 x2 : Value) :
    (((w.setCell ⟨B, 0, none⟩ x0).setCell ⟨B, 1, none⟩ x1).setCell ⟨B, 2, none⟩ x2).heap[B]? = some (.cells #[x0, x1, x2] t) := by
  have g1 := heap_setCell_same _ B 0 _ _ x0 h
  have g2 := heap_setCell_same _ B 1 _ _ x1 g1
  have g3 := heap_setCell_same _ B 2 _ _ x2 g2
  exact g3
theorem lonly3 {w : World} {B : Nat} (x0 x1 x2 : Value) : Only (fun b => b = B) w (((w.setCell ⟨B, 0, none⟩ x0).setCell ⟨B, 1, none⟩ x1).setCell ⟨B, 2, none⟩ x2) :=
  (((Only.refl (fun b => b = B) w).setCell ⟨B, 0, none⟩ _ (fun _ => rfl)).setCell ⟨B, 1, none⟩ _ (fun _ => rfl)).setCell ⟨B, 2, none⟩ _ (fun _ => rfl)
/-- what a call answers -/
def NxP (N P : Nat) (q : List (Nat × List UInt8)) (z : Nat) (b : Bool) (w : World) (e : Ending) (w' : World) : Prop :=
  match q with
  | [] => e = .returned (.agg #[.int .i64 (z : Int), .string ⟨#[]⟩, .bool b]) ∧ Hid (Only (fun x => x = N ∨ x = P) w w')
  | (k, t) :: q' => e = .returned (.agg #[.int .i64 (k : Int), .string (bt t), .bool false]) ∧ Hid (LnS w' N P q' z b ∧ Only (fun x => x = N ∨ x = P) w w')
set_option maxRecDepth 100000 in
set_option maxHeartbeats 4000000 in
theorem next_any {N P : Nat} {q : List (Nat × List UInt8)} {z : Nat} {b : Bool} {w : World} (h : LnS w N P q z b) (hM : Mxl w) (hNM : N ≠ 0 ∧ P ≠ 0) : Calls Tryd.prog 13 #[.pointer (some ⟨N, 0, none⟩), .pointer (some ⟨P, 0, none⟩)] w (NxP N P q z b w) := by
  obtain ⟨hne, n0, r0, cN0, cP0, hl0, hb0⟩ := h
  obtain ⟨C, hC⟩ : ∃ C, C = w.heap.size := ⟨_, rfl⟩
  obtain ⟨W, hW⟩ : ∃ W, W = w.alloc (.cells #[.int .i64 0, .string ⟨#[]⟩, .bool false] 38) := ⟨_, rfl⟩
  have hNlt := (Array.getElem?_eq_some_iff.1 cN0).1
  have hPlt := (Array.getElem?_eq_some_iff.1 cP0).1
  have oW : Only (fun _ => False) w W := by rw [hW]; exact (Only.refl _ w).alloc _
  have bC : W.heap[C]? = some (.cells #[.int .i64 0, .string ⟨#[]⟩, .bool false] 38) := by rw [hW]; exact alloc_at _ _ _ hC
  have HS : Hid (∃ n r, W.heap[N]? = some (.cells #[.int .i64 ((n : Nat) : Int)] 3) ∧ W.heap[P]? = some (.cells #[.string (bt r)] 9) ∧ linS r [] n = (q, z, b) ∧ n + r.length ≤ 131072) := ⟨n0, r0, (oW.block N hNlt (fun g => g)).trans cN0, (oW.block P hPlt (fun g => g)).trans cP0, hl0, hb0⟩
  have HW : Hid (Only (fun x => x = N ∨ x = P) w W) := oW.mono (fun _ _ g => g.elim)
  have HX : Hid (∀ w1, Only (fun x => x = N ∨ x = P) W w1 → w1.heap[C]? = some (.cells #[.int .i64 0, .string ⟨#[]⟩, .bool false] 38)) := fun w1 o1 => (o1.block C (Array.getElem?_eq_some_iff.1 bC).1 (fun g => by omega)).trans bC
  have HD : Hid (N ≠ P ∧ C ≠ N ∧ C ≠ P ∧ w.heap.size = C) := ⟨hne, by omega, by omega, hC.symm⟩
  have HM : Hid (∀ w1, Only (fun x => x = N ∨ x = P) W w1 → Mxl w1) := fun w1 o1 => by
    obtain ⟨m, hm⟩ := hM.frame oW
    exact ⟨m, o1.cell hm (fun g => by simp only at g; omega)⟩
  clear hne cN0 cP0 hl0 hb0 hNlt hPlt oW bC hM hNM n0 r0
  go_enter Tryd.func13, Tryd.ntmps13
  go_wp2
  rw [← hW, ← hC]
  clear hW hC
  go_loopw [3] (fun r3 wr => Hid ((∃ n r, wr.heap[N]? = some (.cells #[.int .i64 ((n : Nat) : Int)] 3) ∧ wr.heap[P]? = some (.cells #[.string (bt r)] 9) ∧ linS r [] n = (q, z, b) ∧ n + r.length ≤ 131072) ∧ Only (fun x => x = N ∨ x = P) W wr)) (fun r3 wr => lnM wr P)
  case atStart => exact ⟨HS.out, Only.refl _ _⟩
  case round =>
    have HI := hrel
    clear hrel
    obtain ⟨w1, hw1⟩ : ∃ w1, w1 = wr := ⟨_, rfl⟩
    rw [← hw1] at HI ⊢
    clear hw1
    obtain ⟨⟨n, r, cN, cP, hl, hb⟩, o1⟩ := HI.out
    have d0 : w1.cell? ⟨N, 0, none⟩ = some (.int .i64 (n : Int)) := blk_cells cN 0
    have f0 := blk_froz cN 0
    obtain ⟨w2, hw2⟩ : ∃ w2, w2 = w1.setCell ⟨N, 0, none⟩ (.int .i64 ((n : Int) + 1)) := ⟨_, rfl⟩
    have o12 : Only (fun x => x = N) w1 w2 := by rw [hw2]; exact (Only.refl _ w1).setCell _ _ (fun _ => rfl)
    have cN2 : w2.heap[N]? = some (.cells #[.int .i64 ((n : Int) + 1)] 3) := by rw [hw2]; exact (heap_setCell_same _ _ _ _ _ _ cN).trans rfl
    have cP2 : w2.heap[P]? = some (.cells #[.string (bt r)] 9) := (o12.block P (Array.getElem?_eq_some_iff.1 cP).1 (fun g => HD.out.1 g.symm)).trans cP
    have d1 : w2.cell? ⟨P, 0, none⟩ = some (.string (bt r)) := blk_cells cP2 0
    have oW2 : Only (fun x => x = N ∨ x = P) W w2 := o1.trans (o12.mono (bs' := fun x => x = N ∨ x = P) (fun _ _ g => .inl g)) (fun _ _ g => g)
    have HC : Hid _ := cut_any (bt r) ⟨#[10]⟩ w2 (by rw [bt_size]; omega) (HM.out w2 oW2)
    rw [bt_list, show (⟨#[10]⟩ : ByteArray).data.toList = [10] from rfl] at HC
    have HK : Hid (w2.heap[N]? = some (.cells #[.int .i64 ((n : Int) + 1)] 3) ∧ w2.heap[P]? = some (.cells #[.string (bt r)] 9) ∧ Only (fun x => x = N ∨ x = P) W w2) := ⟨cN2, cP2, oW2⟩
    have hc := linS_cut r [] n
    rw [hl] at hc
    have i0 : (0 : Int) ≤ (n : Int) := by omega
    have i1 : (n : Int) ≤ 131072 := by omega
    have HB : Hid (n + r.length ≤ 131072) := hb
    have HMz : Hid (lnM w1 P = r.length) := by show lnM w1 P = r.length; unfold lnM; rw [show w1.cell? ⟨P, 0, none⟩ = some (.string (bt r)) from blk_cells cP 0]; exact bt_size r
    cases hf : (Lib.cut r [10]).2.2 with
    | false =>
      have hmiss := cut_miss r hf
      rw [hf] at hc
      simp only [Bool.false_eq_true, if_false, List.nil_append, Prod.mk.injEq] at hc
      obtain ⟨rfl, rfl, hbb⟩ := hc
      rw [hmiss] at HC
      simp only at HC
      have hE : (bt r).toList.isEmpty = b := by
        rw [hbb]
        cases r <;> simp [bt, ByteArray.toList_eq]
      obtain ⟨R, hR⟩ : ∃ R, R = bt r := ⟨_, rfl⟩
      have hR2 : (⟨r.toArray⟩ : ByteArray) = R := hR.symm
      rw [← hR] at hE HK d1
      rw [hR2] at HC
      rw [← hR] at HC
      rw [hw2] at d1
      clear hl hb hmiss hf hbb cN cP cN2 cP2 o1 o12 oW2 HI HMz hR hR2
      go_wp2_with fail
      rw [← hw2]
      refine (show Calls Tryd.prog 14 _ _ _ from HC.out).mono ?_
      rintro e w3 ⟨rfl, o3⟩
      have cC := HX.out w3 (HK.out.2.2.trans (o3.mono (bs' := fun x => x = N ∨ x = P) (fun _ _ g => g.elim)) (fun _ _ g => g))
      have d3 : w3.cell? ⟨N, 0, none⟩ = some (.int .i64 ((n : Int) + 1)) := o3.cell (blk_cells HK.out.1 0) (fun g => g)
      have e0 : w3.cell? ⟨C, 0, none⟩ = some (.int .i64 0) := blk_cells cC 0
      have e1 : w3.cell? ⟨C, 1, none⟩ = some (.string ⟨#[]⟩) := blk_cells cC 1
      have e2 : w3.cell? ⟨C, 2, none⟩ = some (.bool false) := blk_cells cC 2
      have fC0 := blk_froz cC 0
      have fC1 := blk_froz cC 1
      have fC2 := blk_froz cC 2
      have HO : Hid (Only (fun x => x = N ∨ x = P) w w3 ∧ w3.heap[C]? = some (.cells #[.int .i64 0, .string ⟨#[]⟩, .bool false] 38)) := ⟨(HW.out.trans HK.out.2.2 (fun _ _ g => g)).trans (o3.mono (bs' := fun x => x = N ∨ x = P) (fun _ _ g => g.elim)) (fun _ _ g => g), cC⟩
      clear HC HM HX HS d0 d1 f0 hw2 o3 HK HW
      go_wp2
      refine bodyPost_ret (results_line rfl _ _ C (lset3 HO.out.2 _ _ _) rfl) rfl ?_
      refine ⟨by simp, ?_⟩
      exact HO.out.1.trans (lonly3 _ _ _) (fun k hk g => by have := HD.out.2.2.2; omega)
    | true =>
      have hlen := cut_len r hf
      rw [hf] at hc
      simp only [if_true, List.nil_append] at hc
      obtain ⟨A, hA⟩ : ∃ A, A = (Lib.cut r [10]).1 := ⟨_, rfl⟩
      obtain ⟨B, hB⟩ : ∃ B, B = (Lib.cut r [10]).2.1 := ⟨_, rfl⟩
      rw [← hA, ← hB] at hc hlen HC
      rw [hf] at HC
      by_cases hz : A = []
      · rw [if_pos hz] at hc
        subst hz
        have HN : Hid (linS B [] (n + 1) = (q, z, b) ∧ B.length < r.length) := ⟨hc.symm, by simp at hlen; omega⟩
        obtain ⟨S, hS⟩ : ∃ S, S = bt B := ⟨_, rfl⟩
        have HSB : Hid (S = bt B) := hS
        rw [show (⟨B.toArray⟩ : ByteArray) = S from hS.symm] at HC
        obtain ⟨R, hR⟩ : ∃ R, R = bt r := ⟨_, rfl⟩
        rw [← hR] at HK d1 HC
        rw [hw2] at d1
        clear hl hb hf cN cP cN2 cP2 o1 o12 oW2 HI hR hS hA hB hlen hc
        go_wp2_with fail
        rw [← hw2]
        refine (show Calls Tryd.prog 14 _ _ _ from HC.out).mono ?_
        rintro e w3 ⟨rfl, o3⟩
        have k0 := (o3.block N (Array.getElem?_eq_some_iff.1 HK.out.1).1 (fun g => g)).trans HK.out.1
        have k1 := (o3.block P (Array.getElem?_eq_some_iff.1 HK.out.2.1).1 (fun g => g)).trans HK.out.2.1
        have oP : Only (fun x => x = P) w3 (w3.setCell ⟨P, 0, none⟩ (.string S)) := (Only.refl _ w3).setCell _ _ (fun _ => rfl)
        have e0 : w3.cell? ⟨P, 0, none⟩ = some (.string R) := blk_cells k1 0
        have fP := blk_froz k1 0
        have HO : Hid ((∃ n' r', (w3.setCell ⟨P, 0, none⟩ (.string S)).heap[N]? = some (.cells #[.int .i64 ((n' : Nat) : Int)] 3) ∧ (w3.setCell ⟨P, 0, none⟩ (.string S)).heap[P]? = some (.cells #[.string (bt r')] 9) ∧ linS r' [] n' = (q, z, b) ∧ n' + r'.length ≤ 131072) ∧ Only (fun x => x = N ∨ x = P) W (w3.setCell ⟨P, 0, none⟩ (.string S))) := by
          refine ⟨⟨n + 1, B, ?_, ?_, HN.out.1, ?_⟩, ?_⟩
          · rw [oP.block N (Array.getElem?_eq_some_iff.1 k0).1 HD.out.1, k0]
            rfl
          · rw [← HSB.out]
            exact (heap_setCell_same _ _ _ _ _ _ k1).trans rfl
          · have := HN.out.2; have : n + r.length ≤ 131072 := HB.out; omega
          · exact (HK.out.2.2.trans (o3.mono (bs' := fun x => x = N ∨ x = P) (fun _ _ g => g.elim)) (fun _ _ g => g)).trans (oP.mono (bs' := fun x => x = N ∨ x = P) (fun _ _ g => .inr g)) (fun _ _ g => g)
        have HQ : Hid (lnM (w3.setCell ⟨P, 0, none⟩ (.string S)) P < lnM w1 P) := by
          show _ < _
          rw [show lnM w1 P = r.length from HMz.out]
          have h9 : (w3.setCell ⟨P, 0, none⟩ (.string S)).cell? ⟨P, 0, none⟩ = some (.string S) := blk_cells ((heap_setCell_same _ P 0 _ _ (.string S) k1).trans rfl) 0
          unfold lnM
          rw [h9]
          show S.size < _
          rw [show S = bt B from HSB.out, bt_size]
          exact HN.out.2
        clear HC d1 f0 hw2 o3 HK k0 k1 oP
        go_wp2
        go_roundw
        case rel => exact HO
        case measure => exact HQ.out
      · rw [if_neg hz] at hc
        simp only [Prod.mk.injEq] at hc
        obtain ⟨rfl, hzz⟩ := hc
        obtain ⟨a0, A1, rfl⟩ : ∃ a0 A1, A = a0 :: A1 := by
          cases A with
          | nil => exact absurd rfl hz
          | cons x y => exact ⟨x, y, rfl⟩
        have hE : (bt (a0 :: A1)).toList.isEmpty = false := by simp [bt, ByteArray.toList_eq]
        obtain ⟨T, hT⟩ : ∃ T, T = bt (a0 :: A1) := ⟨_, rfl⟩
        have HTT : Hid (T = bt (a0 :: A1)) := hT
        rw [← hT] at hE
        rw [show (⟨(a0 :: A1).toArray⟩ : ByteArray) = T from hT.symm] at HC
        have HN : Hid (linS B [] (n + 1) = ((linS B [] (n + 1)).1, z, b) ∧ B.length < r.length) := ⟨by rw [hzz], by omega⟩
        obtain ⟨S, hS⟩ : ∃ S, S = bt B := ⟨_, rfl⟩
        have HSB : Hid (S = bt B) := hS
        rw [show (⟨B.toArray⟩ : ByteArray) = S from hS.symm] at HC
        obtain ⟨R, hR⟩ : ∃ R, R = bt r := ⟨_, rfl⟩
        rw [← hR] at HK d1 HC
        rw [hw2] at d1
        clear hl hb hf cN cP cN2 cP2 o1 o12 oW2 HI hR hS hA hB hlen hzz hz hT
        go_wp2_with fail
        rw [← hw2]
        refine (show Calls Tryd.prog 14 _ _ _ from HC.out).mono ?_
        rintro e w3 ⟨rfl, o3⟩
        have k0 := (o3.block N (Array.getElem?_eq_some_iff.1 HK.out.1).1 (fun g => g)).trans HK.out.1
        have k1 := (o3.block P (Array.getElem?_eq_some_iff.1 HK.out.2.1).1 (fun g => g)).trans HK.out.2.1
        have oP : Only (fun x => x = P) w3 (w3.setCell ⟨P, 0, none⟩ (.string S)) := (Only.refl _ w3).setCell _ _ (fun _ => rfl)
        have e0 : w3.cell? ⟨P, 0, none⟩ = some (.string R) := blk_cells k1 0
        have fP := blk_froz k1 0
        have kN := (oP.block N (Array.getElem?_eq_some_iff.1 k0).1 HD.out.1).trans k0
        have kP := (heap_setCell_same _ P 0 _ _ (.string S) k1).trans rfl
        have o4 : Only (fun x => x = N ∨ x = P) W (w3.setCell ⟨P, 0, none⟩ (.string S)) := (HK.out.2.2.trans (o3.mono (bs' := fun x => x = N ∨ x = P) (fun _ _ g => g.elim)) (fun _ _ g => g)).trans (oP.mono (bs' := fun x => x = N ∨ x = P) (fun _ _ g => .inr g)) (fun _ _ g => g)
        have cC := HX.out _ o4
        have d3 : (w3.setCell ⟨P, 0, none⟩ (.string S)).cell? ⟨N, 0, none⟩ = some (.int .i64 ((n : Int) + 1)) := blk_cells kN 0
        have e1 : (w3.setCell ⟨P, 0, none⟩ (.string S)).cell? ⟨C, 0, none⟩ = some (.int .i64 0) := blk_cells cC 0
        have e2 : (w3.setCell ⟨P, 0, none⟩ (.string S)).cell? ⟨C, 1, none⟩ = some (.string ⟨#[]⟩) := blk_cells cC 1
        have e3 : (w3.setCell ⟨P, 0, none⟩ (.string S)).cell? ⟨C, 2, none⟩ = some (.bool false) := blk_cells cC 2
        have fC0 := blk_froz cC 0
        have fC1 := blk_froz cC 1
        have fC2 := blk_froz cC 2
        have HO : Hid (Only (fun x => x = N ∨ x = P) w (w3.setCell ⟨P, 0, none⟩ (.string S)) ∧ (w3.setCell ⟨P, 0, none⟩ (.string S)).heap[C]? = some (.cells #[.int .i64 0, .string ⟨#[]⟩, .bool false] 38) ∧ LnS (w3.setCell ⟨P, 0, none⟩ (.string S)) N P (linS B [] (n + 1)).1 z b) := by
          refine ⟨HW.out.trans o4 (fun _ _ g => g), cC, HD.out.1, n + 1, B, ?_, ?_, HN.out.1, ?_⟩
          · rw [kN]; rfl
          · rw [← show S = bt B from HSB.out]; exact kP
          · have := HN.out.2; have : n + r.length ≤ 131072 := HB.out; omega
        clear HC HM HX HS d1 f0 hw2 o3 HK HW k0 k1 oP kN kP o4 cC
        go_wp2
        refine bodyPost_ret (results_line rfl _ _ C (lset3 HO.out.2.1 _ _ _) rfl) rfl ?_
        refine ⟨by rw [← show T = bt (a0 :: A1) from HTT.out]; simp, ?_⟩
        have h5 := lonly3 (w := w3.setCell ⟨P, 0, none⟩ (.string S)) (B := C) (.int .i64 ((n : Int) + 1)) (.string T) (.bool false)
        exact ⟨HO.out.2.2.only h5 (fun g => HD.out.2.1 g.symm) (fun g => HD.out.2.2.1 g.symm), HO.out.1.trans h5 (fun k hk g => by have := HD.out.2.2.2; omega)⟩
end Go.Proofs.YtmmggnmgimgdfaaDoor
namespace Go.Proofs.YtmmggnmgimgdfaaDoor
open Go.RowKit
set_option linter.unusedSimpArgs false
set_option linter.unusedVariables false
/-- what namesOf answers -/
def NmP (o : Option (List ByteArray)) (w : World) (e : Ending) (w' : World) : Prop :=
  match o with
  | none => e = .returned (.tuple #[.slice none 0 0, .bool false]) ∧ Hid (Only (fun _ => False) w w')
  | some us => ∃ g, e = .returned (.tuple #[.slice (some ⟨g, 0, none⟩) us.length us.length, .bool true]) ∧ Hid (w.heap.size ≤ g ∧ w'.heap[g]? = some (.cells (us.map Value.string).toArray 9) ∧ Only (fun _ => False) w w')
def mnU : Value → Nat
  | .int _ n => n.toNat
  | _ => 0
theorem pcs_pos (s : ByteArray) : 0 < (pcs s).length := by rw [pcs_len]; omega
set_option maxRecDepth 100000 in
set_option maxHeartbeats 4000000 in
theorem namesOf_any (T p0 p : ByteArray) (w : World) (hp : p = p0 ++ ⟨#[32]⟩) (hp0 : p0.size ≤ 1000) (hT : T.size ≤ 131072) (hM : Mxl w) (hN : Nog w) : Calls Tryd.prog 15 #[.string T, .string p0] w (NmP (nmO T p) w) := by
  have a1 : ∀ W : World, (Op.stringOp .add p0 ⟨#[32]⟩).run Tryd.prog W = .ok (.string p) W := fun W => add_str _ W hp.symm (by omega) (by show 1 ≤ 1000000; omega)
  have HC : Hid (Calls Tryd.prog 20 #[.string T, .string p] w fun e w' => e = .returned (cutV T p) ∧ w' = w) := cutprefix_any T p w
  unfold cutV at HC
  unfold nmO
  have O0 : Hid (Only (fun _ => False) w w) := Only.refl _ _
  cases hb : preB T p with
  | false =>
    rw [hb] at HC
    rw [if_neg (by decide)]
    rw [if_neg (by decide)] at HC
    clear hb hp hp0 hT hM hN
    go_enter Tryd.func15, Tryd.ntmps15
    go_wp2_with fail
    refine (show Calls Tryd.prog 20 _ _ _ from HC.out).mono ?_
    rintro e w1 ⟨rfl, hw⟩
    obtain rfl : w = w1 := hw.symm
    clear HC hw
    go_wp2
    go_ret2
    exact ⟨rfl, O0⟩
  | true =>
    rw [hb] at HC
    rw [if_pos rfl]
    rw [if_pos rfl] at HC
    obtain ⟨R, hR⟩ : ∃ R, R = T.extract p.size T.size := ⟨_, rfl⟩
    have hRs : R.size ≤ 131072 := by rw [hR, ByteArray.size_extract]; omega
    rw [← hR] at HC ⊢
    have HL : Hid (Calls Tryd.prog 22 #[.string R] w fun e w' => e = .returned (.string R) ∧ Below w.heap.size w w') := clone_any R w (by omega)
    have HS : Hid (∀ w1, Only (fun _ => False) w w1 → Calls Tryd.prog 21 #[.string R, .string ⟨#[32]⟩] w1 fun e w' => e = .returned (.slice (some ⟨w1.heap.size, 0, none⟩) (pcs R).length (pcs R).length) ∧ w' = w1.alloc (.cells ((pcs R).map Value.string).toArray 9)) := fun w1 o1 => split_any R w1 (by omega) (hM.frame o1)
    obtain ⟨us, hus⟩ : ∃ us, us = pcs R := ⟨_, rfl⟩
    rw [← hus] at HS ⊢
    obtain ⟨L, hL⟩ : ∃ L, L = us.length := ⟨_, rfl⟩
    have hLb : L ≤ 131073 := by
      have h1 := pcs_len R
      have h2 : Lib.countB R ⟨#[32]⟩ ≤ R.size := Lib.countB_le ⟨#[32]⟩ (by decide) R.size R (Nat.le_refl _)
      rw [hL, hus]
      omega
    have HLL : Hid (L = us.length ∧ L ≤ 131073) := ⟨hL, hLb⟩
    have HN : Hid (∀ s w1, Only (fun _ => False) w w1 → Calls Tryd.prog 23 #[.string s] w1 fun e w' => e = .returned (.bool (nameB s)) ∧ Only (fun _ => False) w1 w') := fun s w1 o1 => name_any s w1 (hN.frame o1)
    obtain ⟨Z, hZ⟩ : ∃ Z, Z = us.all nameB := ⟨_, rfl⟩
    have HZ : Hid (Z = us.all nameB) := hZ
    rw [← hZ]
    obtain ⟨o, ho⟩ : ∃ o, o = if Z then some us else none := ⟨_, rfl⟩
    have HP1 : Hid (Z = false → ∀ w', Only (fun _ => False) w w' → NmP o w (.returned (.tuple #[.slice none 0 0, .bool false])) w') := fun h1 w' h2 => by
      rw [ho, h1]
      exact ⟨rfl, h2⟩
    have HP2 : Hid (Z = true → ∀ g w', w.heap.size ≤ g → w'.heap[g]? = some (.cells (us.map Value.string).toArray 9) → Only (fun _ => False) w w' → NmP o w (.returned (.tuple #[.slice (some ⟨g, 0, none⟩) L L, .bool true])) w') := fun h0 g w' h1 h2 h3 => by
      rw [ho, h0]
      exact ⟨g, by rw [hL], h1, h2, h3⟩
    rw [← ho]
    clear ho
    rw [← hL] at HS
    clear hb hp hp0 hT hM hN hR hRs hus hLb hZ hL
    go_enter Tryd.func15, Tryd.ntmps15
    go_wp2_with fail
    refine (show Calls Tryd.prog 20 _ _ _ from HC.out).mono ?_
    rintro e w1 ⟨rfl, hw⟩
    obtain rfl : w = w1 := hw.symm
    clear HC hw
    go_wp2_with fail
    refine (show Calls Tryd.prog 22 _ _ _ from HL.out).mono ?_
    rintro e w2 ⟨rfl, b2⟩
    have HCC : Hid _ := HS.out w2 (below_only b2)
    have O2 : Hid (Only (fun _ => False) w w2) := below_only b2
    clear HL HS b2
    go_wp2_with fail
    refine (show Calls Tryd.prog 21 _ _ _ from HCC.out).mono ?_
    rintro e w3 ⟨rfl, hw3⟩
    obtain ⟨g, hg⟩ : ∃ g, g = w2.heap.size := ⟨_, rfl⟩
    have O3 : Hid (Only (fun _ => False) w w3 ∧ w.heap.size ≤ g ∧ w3.heap[g]? = some (.cells (us.map Value.string).toArray 9)) := by
      refine ⟨?_, by rw [hg]; exact O2.out.size, by rw [hw3]; exact alloc_at _ _ _ hg⟩
      rw [hw3]
      exact O2.out.alloc _
    rw [← hg]
    clear HCC hw3 hg O2
    go_wp2
    go_loopw [25] (fun r wr => ∃ j : Nat, r = .int .i64 (j : Int) ∧ j ≤ L ∧ Hid (Z = (us.drop j).all nameB ∧ Only (fun _ => False) w3 wr)) (fun r _ => L - mnU r)
    case atStart => exact ⟨0, rfl, Nat.zero_le _, by simpa using HZ.out, Only.refl _ _⟩
    case round =>
      obtain ⟨j, rfl, hj, HI⟩ := hrel
      obtain ⟨w4, hw4⟩ : ∃ w4, w4 = wr := ⟨_, rfl⟩
      rw [← hw4] at HI ⊢
      clear hw4
      have hle := HLL.out.1
      have hlb := HLL.out.2
      by_cases hjL : j < L
      · obtain ⟨x, hx⟩ : ∃ x, us[j]? = some x := ⟨us[j]'(by omega), List.getElem?_eq_getElem (by omega)⟩
        have cx : w4.cell? ⟨g, j, none⟩ = some (.string x) := by
          have h1 : w3.cell? ⟨g, j, none⟩ = some (.string x) := by rw [blk_cells O3.out.2.2 j]; simp [hx]
          exact HI.out.2.cell h1 (fun g => g)
        have hdr : us.drop j = x :: us.drop (j + 1) := by
          have hlt : j < us.length := by omega
          rw [List.drop_eq_getElem_cons hlt]
          have := List.getElem?_eq_getElem hlt
          rw [hx] at this
          injection this with this
          rw [← this]
        have HC : Hid _ := HN.out x w4 (O3.out.1.trans HI.out.2 (fun _ _ g => g))
        obtain ⟨b, hb⟩ : ∃ b, b = nameB x := ⟨_, rfl⟩
        have HX : Hid (Z = (b && (us.drop (j + 1)).all nameB) ∧ Only (fun _ => False) w3 w4 ∧ j < L) := ⟨by rw [HI.out.1, hdr, hb]; rfl, HI.out.2, hjL⟩
        rw [← hb] at HC
        have i1 : (j : Int) < (L : Int) := by omega
        have i0 : (0 : Int) ≤ (j : Int) := by omega
        have i4 : j ≤ 131073 := by omega
        clear hx hdr hb HI hjL hj hle hlb
        go_wp2_with fail
        refine (show Calls Tryd.prog 23 _ _ _ from HC.out).mono ?_
        rintro e w5 ⟨rfl, o5⟩
        have O5 : Hid (Only (fun _ => False) w3 w5) := HX.out.2.1.trans o5 (fun _ _ g => g)
        clear HC o5 cx
        cases b with
        | false =>
          have hz : Hid (Z = false) := by rw [HX.out.1]; rfl
          go_wp2
          go_ret2
          exact HP1.out hz.out w5 (O3.out.1.trans O5.out (fun _ _ g => g))
        | true =>
          have HF : Hid (Z = (us.drop (j + 1)).all nameB ∧ Only (fun _ => False) w3 w5) := ⟨by rw [HX.out.1]; rfl, O5.out⟩
          have HJ : Hid (j < L) := HX.out.2.2
          clear HX O5
          go_wp2
          go_roundw
          case rel => exact ⟨j + 1, by go_num, by have := HJ.out; omega, HF⟩
          case measure => simp only [mnU]; have := HJ.out; omega
      · obtain rfl : j = L := by omega
        have i1 : ¬ (j : Int) < (j : Int) := by omega
        have hz : Hid (Z = true) := by
          have := HI.out.1
          rw [hle, List.drop_length] at this
          exact this
        have HO : Hid (Only (fun _ => False) w3 w4) := HI.out.2
        clear hle hlb HI hjL hj
        go_wp2
        go_ret2
        exact HP2.out hz.out g w4 O3.out.2.1 ((HO.out.block g (Array.getElem?_eq_some_iff.1 O3.out.2.2).1 (fun g => g)).trans O3.out.2.2) (O3.out.1.trans HO.out (fun _ _ g => g))
end Go.Proofs.YtmmggnmgimgdfaaDoor
