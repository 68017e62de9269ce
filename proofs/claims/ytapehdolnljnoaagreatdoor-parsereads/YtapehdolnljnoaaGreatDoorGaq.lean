/- Sources one behind the other: what is read of tokens that others follow. Sources one behind the other: too many tokens; what both are read as. Sources one behind the other: forms. Rows of the document's forms, one behind the other. ParseReads: the walk. -/
import Derived.Test.YtapehdolnljnoaaGreatDoorGah
import Derived.Test.YtapehdolnljnoaaGreatDoorGad
import Derived.Test.YtapehdolnljnoaaGreatDoorGal
import Derived.Test.YtapehdolnljnoaaGreatDoorGap
import Derived.Test.YtapehdolnljnoaaGreatDoorGai
namespace Go.Proofs.YtapehdolnljnoaaGreatDoor
open Go.RowKit
set_option linter.unusedSimpArgs false
set_option linter.unusedVariables false
theorem sh_nm (d : Nat) (t : Tok) : nmB (shT d t) = nmB t := rfl
theorem sh_is (d : Nat) (t : Tok) (s : ByteArray) : isB (shT d t) s = isB t s := rfl
theorem sh_0 (t : Tok) : shT 0 t = t := by cases t; simp [shT]
theorem sh_map0 (q : List Tok) : q.map (shT 0) = q := by
  have : shT 0 = id := funext sh_0
  rw [this, List.map_id]
/-- what succeeds does so wherever it stands, and whatever follows -/
theorem prs_ext (n n' : Int) (d : Nat) (B : List Tok) : ∀ f m q o z l r z', prs n f m q o z = .ok (l, r, z') → prs n' f m (q.map (shT d) ++ B) o z = .ok (l, r.map (shT d) ++ B, z') := by
  intro f
  induction f with
  | zero => intro m q o z l r z' h; simp [prs] at h
  | succ f ih =>
    intro m q o z l r z' h
    match m with
    | 0 =>
      cases q with
      | nil => simp [prs] at h
      | cons t q =>
        simp only [prs] at h
        simp only [List.map_cons, List.cons_append, prs, shT]
        repeat' split at h
        all_goals first
          | (simp at h; done)
          | (simp only [Except.ok.injEq, Prod.mk.injEq] at h; obtain ⟨rfl, rfl, rfl⟩ := h; simp [*]; done)
          | skip
        all_goals
          rename_i hp
          simp only [Except.ok.injEq, Prod.mk.injEq] at h
          obtain ⟨rfl, rfl, rfl⟩ := h
          have h2 := ih _ _ _ _ _ _ _ hp
          simp [*]
    | 1 =>
      cases q with
      | nil => simp [prs] at h
      | cons t q =>
        simp only [prs] at h
        simp only [List.map_cons, List.cons_append, prs]
        have hs := sh_nm d t
        by_cases hb : nmB t = true
        · rw [if_pos hb] at h
          rw [if_pos (hs.trans hb)]
          by_cases hz : z = 1024
          · rw [if_pos hz] at h
            simp at h
          · rw [if_neg hz] at h ⊢
            simp only [Except.ok.injEq, Prod.mk.injEq] at h
            obtain ⟨rfl, rfl, rfl⟩ := h
            rfl
        · rw [if_neg hb] at h
          rw [if_neg (fun e => hb (hs.symm.trans e))]
          have := ih _ _ _ _ _ _ _ h
          simpa using this
    | m + 2 =>
      cases q with
      | nil => simp [prs] at h
      | cons t q =>
        simp only [prs] at h
        simp only [List.map_cons, List.cons_append, prs]
        have hs := sh_is d t (shB m)
        by_cases hb : isB t (shB m) = true
        · rw [if_pos hb] at h
          rw [if_pos (hs.trans hb)]
          simp only [Except.ok.injEq, Prod.mk.injEq] at h
          obtain ⟨rfl, rfl, rfl⟩ := h
          rfl
        · rw [if_neg hb] at h
          rw [if_neg (fun e => hb (hs.symm.trans e))]
          split at h
          · simp at h
          · rename_i l1 r1 z1 hp
            split at h
            · simp at h
            · rename_i l2 r2 z2 hp2
              simp only [Except.ok.injEq, Prod.mk.injEq] at h
              obtain ⟨rfl, rfl, rfl⟩ := h
              have h1 := ih _ _ _ _ _ _ _ hp
              have h2 := ih _ _ _ _ _ _ _ hp2
              simp only [List.map_cons, List.cons_append] at h1
              rw [h1]
              dsimp only
              rw [h2]
theorem sdR_ext (n n' : Int) (d : Nat) (B : List Tok) (e : ByteArray) : ∀ (k : Nat) (q : List Tok) (j : Nat) (r : List Tok), sdR n e k q = .ok (j, r) → sdR n' e k (q.map (shT d) ++ B) = .ok (j, r.map (shT d) ++ B)
  | k, [], j, r, h => by simp [sdR] at h
  | k, t :: q, j, r, h => by
    simp only [sdR] at h
    simp only [List.map_cons, List.cons_append, sdR]
    have hs := sh_is d t e
    have hs2 := sh_nm d t
    by_cases hb : isB t e = true
    · rw [if_pos hb] at h
      rw [if_pos (hs.trans hb)]
      simp only [Except.ok.injEq, Prod.mk.injEq] at h
      obtain ⟨rfl, rfl⟩ := h
      rfl
    · rw [if_neg hb] at h
      rw [if_neg (fun e => hb (hs.symm.trans e))]
      by_cases hn : nmB t = true
      · rw [if_pos hn] at h
        rw [if_pos (hs2.trans hn)]
        by_cases h16 : k = 16
        · rw [if_pos h16] at h
          simp at h
        · rw [if_neg h16] at h ⊢
          exact sdR_ext n n' d B e (k + 1) q j r h
      · rw [if_neg hn] at h
        simp at h
theorem dfR_ext (n n' : Int) (d : Nat) (B : List Tok) (f : Nat) (q : List Tok) (o z : Int) (fm : Fm) (r : List Tok) (z' : Int) (h : dfR n f q o z = .ok (fm, r, z')) : dfR n' f (q.map (shT d) ++ B) o z = .ok (fm, r.map (shT d) ++ B, z') := by
  cases q with
  | nil => simp [dfR] at h
  | cons t0 q1 =>
    simp only [dfR] at h
    simp only [List.map_cons, List.cons_append, dfR]
    by_cases hf : o = 32 ∨ z = 1024
    · rw [if_pos hf] at h
      simp at h
    · rw [if_neg hf] at h ⊢
      cases q1 with
      | nil => simp [dfN] at h
      | cons t1 q2 =>
        simp only [dfN] at h
        simp only [List.map_cons, List.cons_append, dfN]
        have hs := sh_nm d t1
        by_cases h1 : nmB t1 = false
        · rw [if_pos h1] at h
          simp at h
        · rw [if_neg h1] at h
          rw [if_neg (fun e => h1 (hs.symm.trans e))]
          cases q2 with
          | nil => simp [dfQ] at h
          | cons t2 q3 =>
            simp only [dfQ] at h
            simp only [List.map_cons, List.cons_append, dfQ]
            have hs2 := sh_is d t2 ⟨#[40]⟩
            by_cases h2 : isB t2 ⟨#[40]⟩ = false
            · rw [if_pos h2] at h
              simp at h
            · rw [if_neg h2] at h
              rw [if_neg (fun e => h2 (hs2.symm.trans e))]
              unfold dfA at h ⊢
              cases h3 : sdR n ⟨#[45, 45]⟩ 0 q3 with
              | error e => rw [h3] at h; simp at h
              | ok p =>
                obtain ⟨i, q4⟩ := p
                rw [h3] at h
                rw [sdR_ext n n' d B _ 0 q3 i q4 h3]
                dsimp only at h ⊢
                unfold dfB at h ⊢
                cases h4 : sdR n ⟨#[41]⟩ 0 q4 with
                | error e => rw [h4] at h; simp at h
                | ok p =>
                  obtain ⟨j, q5⟩ := p
                  rw [h4] at h
                  rw [sdR_ext n n' d B _ 0 q4 j q5 h4]
                  dsimp only at h ⊢
                  unfold dfC at h ⊢
                  cases h5 : prs n f 4 q5 (o + 1) (z + 1) with
                  | error e => rw [h5] at h; simp at h
                  | ok p =>
                    obtain ⟨l, q6, z6⟩ := p
                    rw [h5] at h
                    rw [prs_ext n n' d B f 4 q5 _ _ l q6 z6 h5]
                    simp only [Except.ok.injEq, Prod.mk.injEq] at h
                    obtain ⟨rfl, rfl, rfl⟩ := h
                    rfl
theorem fmR_ext (n n' : Int) (d : Nat) (B : List Tok) (f : Nat) (q : List Tok) (o z : Int) (fm : Fm) (r : List Tok) (z' : Int) (h : fmR n f q o z = .ok (fm, r, z')) : fmR n' f (q.map (shT d) ++ B) o z = .ok (fm, r.map (shT d) ++ B, z') := by
  cases q with
  | nil => simp [fmR] at h
  | cons t q =>
    simp only [fmR] at h
    by_cases hb : isB t ⟨#[58]⟩ = true
    · rw [if_pos hb] at h
      have := dfR_ext n n' d B f _ o z fm r z' h
      simp only [List.map_cons, List.cons_append, fmR] at this ⊢
      rw [if_pos ((sh_is d t ⟨#[58]⟩).trans hb)]
      exact this
    · rw [if_neg hb] at h
      cases h5 : prs n f 1 (t :: q) o z with
      | error e => rw [h5] at h; simp at h
      | ok p =>
        obtain ⟨l, q6, z6⟩ := p
        rw [h5] at h
        have h6 := prs_ext n n' d B f 1 _ _ _ l q6 z6 h5
        simp only [List.map_cons, List.cons_append, fmR] at h6 ⊢
        rw [if_neg (fun e => hb ((sh_is d t ⟨#[58]⟩).symm.trans e)), h6]
        simp only [Except.ok.injEq, Prod.mk.injEq] at h
        obtain ⟨rfl, rfl, rfl⟩ := h
        rfl
theorem alR_fuel (n : Int) (F : Nat) : ∀ (g g' : Nat) (q : List Tok), q.length < g → q.length < g' → alR n F g q = alR n F g' q
  | 0, _, _, h, _ => by omega
  | _ + 1, 0, _, _, h => by omega
  | g + 1, g' + 1, [], _, _ => rfl
  | g + 1, g' + 1, t :: r, h, h' => by
    simp only [alR]
    cases hf : fmR n F (t :: r) 0 0 with
    | error e => rfl
    | ok p =>
      obtain ⟨fm, q, z⟩ := p
      have := fmR_len (by omega) hf
      simp only [List.length_cons] at h h' this
      dsimp only
      rw [alR_fuel n F g g' q (by omega) (by omega)]
theorem alR_join (n n' : Int) (F d : Nat) (B : List Tok) (l2 : List Fm) (gB : Nat) (hB : alR n' F gB B = .ok l2) (hgB : B.length < gB) : ∀ (g : Nat) (q : List Tok) (l : List Fm), q.length < g → alR n F g q = .ok l → alR n' F (g + gB) (q.map (shT d) ++ B) = .ok (l ++ l2)
  | 0, _, _, h, _ => by omega
  | g + 1, [], l, _, h => by
    simp only [alR, Except.ok.injEq] at h
    subst h
    rw [List.map_nil, List.nil_append, List.nil_append, alR_fuel n' F (g + 1 + gB) gB B (by omega) hgB]
    exact hB
  | g + 1, t :: r, l, hl, h => by
    simp only [alR] at h
    cases hf : fmR n F (t :: r) 0 0 with
    | error e => rw [hf] at h; simp at h
    | ok p =>
      obtain ⟨fm, q, z⟩ := p
      rw [hf] at h
      dsimp only at h
      cases ha : alR n F g q with
      | error e => rw [ha] at h; simp at h
      | ok l1 =>
        rw [ha] at h
        simp only [Except.ok.injEq] at h
        subst h
        have h1 := fmR_len (by omega) hf
        simp only [List.length_cons] at hl h1
        have h2 := fmR_ext n n' d B F _ 0 0 fm q z hf
        have h3 := alR_join n n' F d B l2 gB hB hgB g q l1 (by omega) ha
        rw [show g + 1 + gB = (g + gB) + 1 by omega]
        simp only [List.map_cons, List.cons_append] at h2 ⊢
        simp only [alR]
        rw [h2]
        dsimp only
        rw [h3]
end Go.Proofs.YtapehdolnljnoaaGreatDoor
namespace Go.Proofs.YtapehdolnljnoaaGreatDoor
open Go.RowKit
set_option linter.unusedSimpArgs false
set_option linter.unusedVariables false
theorem tokH_full {s : ByteArray} {a : Nat} {acc : List Tok} (h : a < s.size) (h0 : (redR s a).2.2 = 0) (h1 : acc.length = 4096) : tokH s a acc = ([], a, 11) := by
  unfold tokH tokG
  rw [if_pos h, if_pos h0, if_pos h1]
theorem tok_over {s S : ByteArray} {y : List Nat} {d : Nat} (hy : Ynl y) : ∀ (n : Nat) (q : List Nat) (a : Nat) (acc' : List Tok), q.length ≤ n → Sfx s q a → Sfx S (q ++ y) (a + d) → (tokH s (bg s a) acc').2.2 = 0 →
    ∃ R, (tokH s (bg s a) acc').1 = acc' ++ R ∧ ∀ acc : List Tok, acc.length ≤ 4096 → 4096 < acc.length + R.length → (tokH S (bg S (a + d)) acc).2.2 = 11 := by
  intro n
  induction n with
  | zero =>
    intro q a acc' hn h g hz
    obtain rfl : q = [] := List.eq_nil_of_length_eq_zero (by omega)
    have hb : Sfx s [] (bg s a) := bg_sfx h
    have hs := h.size
    have hbs := hb.size
    rw [wl_nil] at hs hbs
    refine ⟨[], by rw [tokH_end _ (by omega)]; simp, fun acc h1 h2 => ?_⟩
    simp only [List.length_nil] at h2
    omega
  | succ n ih =>
    intro q a acc' hn h g hz
    have hb := bg_sfx h
    have gb := bg_sfx g
    rw [SK_ext y hy _ q (Nat.le_refl _)] at gb
    have hs := h.size
    have gs := g.size
    have hbs := hb.size
    cases hr : SK q with
    | nil =>
      rw [hr, wl_nil] at hbs
      refine ⟨[], by rw [tokH_end _ (by omega)]; simp, fun acc h1 h2 => ?_⟩
      simp only [List.length_nil] at h2
      omega
    | cons c r =>
      rw [hr] at hb hbs
      rw [hr, if_neg (by simp)] at gb
      have gbs := gb.size
      have hw := wr_pos c
      rw [wl_cons] at hbs
      rw [wl_app, wl_cons] at gbs
      rw [wl_app] at gs
      have epos : bg S (a + d) = bg s a + d := by omega
      have hlt : bg s a < s.size := by omega
      obtain ⟨z1, z2⟩ := tokH_ok hlt hz
      rw [tokH_go hlt z1 z2] at hz ⊢
      rw [epos] at gb ⊢
      have hsame := red_same (by simp) hy hb gb z1
      obtain ⟨m, q', em, hm, hp⟩ := red_sfx (by simp) hb z1
      have hb' : Sfx s q' (redR s (bg s a)).2.1 := by rw [hp]; rw [em] at hb; exact hb.drop
      have gb' : Sfx S (q' ++ y) ((redR s (bg s a)).2.1 + d) := by
        rw [em, List.append_assoc] at gb
        have := gb.drop
        rw [hp]
        rwa [show bg s a + d + wl m = bg s a + wl m + d by omega] at this
      have hl : q'.length ≤ n := by
        have h1 := SK_len q
        rw [hr, em, List.length_append] at h1
        have := List.length_pos_iff.2 hm
        omega
      obtain ⟨R, e1, e2⟩ := ih q' _ _ hl hb' gb' hz
      refine ⟨(redR s (bg s a)).1 :: R, by rw [e1]; simp, fun acc h1 h2 => ?_⟩
      rw [List.length_cons] at h2
      have hz2 : (redR S (bg s a + d)).2.2 = 0 := by rw [hsame]; exact z1
      have hlt2 : bg s a + d < S.size := by omega
      by_cases h4 : acc.length = 4096
      · rw [tokH_full hlt2 hz2 h4]
      · rw [tokH_go hlt2 hz2 h4, hsame]
        exact e2 (acc ++ [shT d (redR s (bg s a)).1]) (by rw [List.length_append]; simp; omega) (by rw [List.length_append]; simp; omega)
theorem joins_over {s t : ByteArray} (h1 : (tokR s).2.2 = 0) (h2 : (tokR t).2.2 = 0) (hz : s.size + t.size < 65536) (hn : 4096 < (tokR s).1.length + (tokR t).1.length) : (tokR (s ++ ⟨#[10]⟩ ++ t)).2.2 = 11 := by
  obtain ⟨_, l, hl, e1⟩ := tokR_ok h1
  obtain ⟨z2, x, hx, e2⟩ := tokR_ok h2
  have e : s ++ ⟨#[10]⟩ ++ t = tx (l ++ 10 :: x) := by
    rw [e1, e2, show (⟨#[10]⟩ : ByteArray) = tx [10] from rfl, tx_app, tx_app, List.append_assoc]
    rfl
  have ht : t.size = wl x := by rw [e2, tx_size]
  have hs : s.size = wl l := by rw [e1, tx_size]
  have hm := tok_more hl hx e1 h1 (by omega)
  rw [e, hm]
  have hv : VL (l ++ 10 :: x) := by
    intro c hc
    rcases List.mem_append.1 hc with hc | hc
    · exact hl c hc
    · rcases List.mem_cons.1 hc with rfl | hc
      · exact .inl (by decide)
      · exact hx c hc
  have e3 : tokR t = tokH t (bg t 0) [] := by
    rw [e2]
    exact tokR_h (by rw [← e2]; exact z2) (stR_tx hx)
  have gx : Sfx (tx (l ++ 10 :: x)) (x ++ []) (0 + (s.size + 1)) := by
    have : Sfx (tx (l ++ 10 :: x)) (l ++ 10 :: x) 0 := sfx_all hv
    have := this.drop.tail
    rw [List.append_nil, Nat.zero_add, hs]
    rwa [Nat.zero_add, show wr 10 = 1 from rfl] at this
  rw [e3] at h2 hn
  obtain ⟨R, r1, r2⟩ := tok_over (d := s.size + 1) (.inl rfl) x.length x 0 [] (Nat.le_refl _) (by rw [e2]; exact sfx_all hx) gx h2
  rw [List.nil_append] at r1
  rw [r1] at hn
  have := r2 (tokR s).1 (tokR_len s) hn
  rw [Nat.zero_add] at this
  exact this
theorem joins_size {s t : ByteArray} (hz : 65536 ≤ s.size + t.size) : (tokR (s ++ ⟨#[10]⟩ ++ t)).2.2 = 11 := by
  have : (s ++ ⟨#[10]⟩ ++ t).size = s.size + 1 + t.size := by rw [ByteArray.size_append, ByteArray.size_append]; rfl
  unfold tokR
  rw [if_pos (by omega)]
/-- a reader gives up for a reason -/
theorem prs_err (n : Int) : ∀ f m q o z a e, prs n f m q o z = .error (a, e) → z ≤ 1024 → 3 * q.length + 1 + min m 2 ≤ f → e = 9 ∨ e = 11 := by
  intro f
  induction f with
  | zero => intro m q o z a e h _ hf; omega
  | succ f ih =>
    intro m q o z a e h hz hf
    match m with
    | 0 =>
      cases q with
      | nil => simp only [prs, Except.error.injEq, Prod.mk.injEq] at h; omega
      | cons t q =>
        simp only [prs] at h
        simp only [List.length_cons] at hf
        repeat' split at h
        all_goals first
          | (simp only [Except.error.injEq, Prod.mk.injEq] at h; omega)
          | (simp at h; done)
          | skip
        all_goals
          rename_i hp
          simp only [Except.error.injEq] at h
          subst h
          exact ih _ _ _ _ _ _ hp (by omega) (by omega)
    | 1 =>
      cases q with
      | nil => simp only [prs, Except.error.injEq, Prod.mk.injEq] at h; omega
      | cons t q =>
        simp only [prs] at h
        repeat' split at h
        · simp only [Except.error.injEq, Prod.mk.injEq] at h; omega
        · simp at h
        · exact ih _ _ _ _ _ _ h hz (by omega)
    | m + 2 =>
      cases q with
      | nil => simp only [prs, Except.error.injEq, Prod.mk.injEq] at h; omega
      | cons t q =>
        simp only [prs] at h
        split at h
        · simp at h
        · split at h
          · rename_i e' hp
            simp only [Except.error.injEq] at h
            subst h
            exact ih _ _ _ _ _ _ hp hz (by omega)
          · rename_i l1 r1 z1 hp
            have h1 := prs_ok n _ _ _ _ _ _ _ _ hp hz
            split at h
            · rename_i e' hp2
              simp only [Except.error.injEq] at h
              subst h
              exact ih _ _ _ _ _ _ hp2 (by omega) (by omega)
            · simp at h
theorem sdR_err (n : Int) (w : ByteArray) : ∀ (k : Nat) (q : List Tok) (a e : Int), sdR n w k q = .error (a, e) → e = 9 ∨ e = 11
  | k, [], a, e, h => by simp only [sdR, Except.error.injEq, Prod.mk.injEq] at h; omega
  | k, t :: q, a, e, h => by
    simp only [sdR] at h
    repeat' split at h
    · simp at h
    · simp only [Except.error.injEq, Prod.mk.injEq] at h; omega
    · exact sdR_err n w (k + 1) q a e h
    · simp only [Except.error.injEq, Prod.mk.injEq] at h; omega
end Go.Proofs.YtapehdolnljnoaaGreatDoor
namespace Go.Proofs.YtapehdolnljnoaaGreatDoor
open Go.RowKit
set_option linter.unusedSimpArgs false
set_option linter.unusedVariables false
/-- a form whose lists are small -/
def Wff (fm : Fm) : Prop := fm.b.length ≤ 4096 ∧ (∃ e, WfT e (bdT fm)) ∧ ∃ e, WfT e fm.it
theorem wf_no : WfT 1 noT := ⟨Nat.zero_le _, fun x hx => by simp [noT] at hx⟩
theorem Wff.wfm {fm : Fm} (h : Wff fm) : Wfm fm := by
  obtain ⟨h1, ⟨e, h2⟩, h3⟩ := h
  refine ⟨h1, fun x hx => ?_, fun _ => h3⟩
  cases e with
  | zero => exact h2.elim
  | succ e => exact ⟨e, h2.2 x hx⟩
theorem dfR_wf {n : Int} {f : Nat} {q : List Tok} {o z : Int} {fm : Fm} {r : List Tok} {z' : Int} (hz : z ≤ 1024) (hq : q.length ≤ 4096) (h : dfR n f q o z = .ok (fm, r, z')) : Wff fm := by
  cases q with
  | nil => simp [dfR] at h
  | cons t0 q1 =>
    simp only [dfR] at h
    split at h
    · simp at h
    · rename_i hf
      cases q1 with
      | nil => simp [dfN] at h
      | cons t1 q2 =>
        simp only [dfN] at h
        split at h
        · simp at h
        · cases q2 with
          | nil => simp [dfQ] at h
          | cons t2 q3 =>
            simp only [dfQ] at h
            split at h
            · simp at h
            · unfold dfA at h
              split at h
              · simp at h
              · rename_i i q4 h4
                unfold dfB at h
                split at h
                · simp at h
                · rename_i j q5 h5
                  unfold dfC at h
                  split at h
                  · simp at h
                  · rename_i l q6 z6 h6
                    simp only [Except.ok.injEq, Prod.mk.injEq] at h
                    obtain ⟨rfl, _, _⟩ := h
                    have a4 := (sdR_len n _ _ _ _ _ h4).1
                    have a5 := (sdR_len n _ _ _ _ _ h5).1
                    have a6 := prs_ok n _ _ _ _ _ _ _ _ h6 (by omega)
                    simp only [List.length_cons] at hq
                    have a7 := prs_wf n _ _ _ _ _ _ _ _ h6 (by omega) (by omega)
                    exact ⟨by dsimp only; omega, ⟨f + 1, by dsimp only [bdT]; omega, a7⟩, ⟨1, wf_no⟩⟩
theorem fmR_wf {n : Int} {f : Nat} {q : List Tok} {o z : Int} {fm : Fm} {r : List Tok} {z' : Int} (hz : z ≤ 1024) (hq : q.length ≤ 4096) (h : fmR n f q o z = .ok (fm, r, z')) : Wff fm := by
  cases q with
  | nil => simp [fmR] at h
  | cons t q =>
    simp only [fmR] at h
    split at h
    · exact dfR_wf hz hq h
    · split at h
      · simp at h
      · rename_i l q' z'' hp
        simp only [Except.ok.injEq, Prod.mk.injEq] at h
        obtain ⟨rfl, _, _⟩ := h
        have a6 := (prs_ok n _ _ _ _ _ _ _ _ hp hz).2.2.2.1 (by omega)
        have a7 := prs_wf n _ _ _ _ _ _ _ _ hp hz hq
        match l, a6 with
        | [x], _ => exact ⟨Nat.zero_le _, ⟨1, Nat.zero_le _, fun x hx => by simp [bdT] at hx⟩, ⟨f, a7 x (by simp)⟩⟩
theorem alR_wf (n : Int) (F : Nat) : ∀ (g : Nat) (q : List Tok) (l : List Fm), q.length ≤ 4096 → alR n F g q = .ok l → l.length ≤ q.length ∧ ∀ fm ∈ l, Wff fm
  | 0, _, _, _, h => by simp [alR] at h
  | g + 1, [], l, _, h => by
    simp only [alR, Except.ok.injEq] at h
    subst h
    exact ⟨Nat.le_refl _, fun fm hf => by simp at hf⟩
  | g + 1, t :: r, l, hl, h => by
    simp only [alR] at h
    cases hf : fmR n F (t :: r) 0 0 with
    | error e => rw [hf] at h; simp at h
    | ok p =>
      obtain ⟨fm, q, z⟩ := p
      rw [hf] at h
      dsimp only at h
      cases ha : alR n F g q with
      | error e => rw [ha] at h; simp at h
      | ok l1 =>
        rw [ha] at h
        simp only [Except.ok.injEq] at h
        subst h
        have h1 := fmR_len (by omega) hf
        have h2 := fmR_wf (by omega) hl hf
        obtain ⟨h3, h4⟩ := alR_wf n F g q l1 (by omega) ha
        refine ⟨by simp only [List.length_cons] at *; omega, fun x hx => ?_⟩
        rcases List.mem_cons.1 hx with rfl | hx
        · exact h2
        · exact h4 x hx
theorem dfR_err {n : Int} {f : Nat} {q : List Tok} {o z : Int} {a e : Int} (hz : z ≤ 1024) (hf : 3 * q.length + 3 ≤ f) (h : dfR n f q o z = .error (a, e)) : e = 9 ∨ e = 11 := by
  cases q with
  | nil => simp only [dfR, Except.error.injEq, Prod.mk.injEq] at h; omega
  | cons t0 q1 =>
    simp only [dfR] at h
    simp only [List.length_cons] at hf
    split at h
    · simp only [Except.error.injEq, Prod.mk.injEq] at h; omega
    · cases q1 with
      | nil => simp only [dfN, Except.error.injEq, Prod.mk.injEq] at h; omega
      | cons t1 q2 =>
        simp only [dfN] at h
        split at h
        · simp only [Except.error.injEq, Prod.mk.injEq] at h; omega
        · cases q2 with
          | nil => simp only [dfQ, Except.error.injEq, Prod.mk.injEq] at h; omega
          | cons t2 q3 =>
            simp only [dfQ] at h
            simp only [List.length_cons] at hf
            split at h
            · simp only [Except.error.injEq, Prod.mk.injEq] at h; omega
            · unfold dfA at h
              split at h
              · rename_i e' h4
                simp only [Except.error.injEq] at h
                subst h
                exact sdR_err n _ _ _ _ _ h4
              · rename_i i q4 h4
                unfold dfB at h
                split at h
                · rename_i e' h5
                  simp only [Except.error.injEq] at h
                  subst h
                  exact sdR_err n _ _ _ _ _ h5
                · rename_i j q5 h5
                  unfold dfC at h
                  have a4 := (sdR_len n _ _ _ _ _ h4).1
                  have a5 := (sdR_len n _ _ _ _ _ h5).1
                  split at h
                  · rename_i e' h6
                    simp only [Except.error.injEq] at h
                    subst h
                    exact prs_err n _ _ _ _ _ _ _ h6 (by omega) (by omega)
                  · simp at h
theorem fmR_err {n : Int} {f : Nat} {q : List Tok} {o z : Int} {a e : Int} (hz : z ≤ 1024) (hf : 3 * q.length + 3 ≤ f) (h : fmR n f q o z = .error (a, e)) : e = 9 ∨ e = 11 := by
  cases q with
  | nil => simp only [fmR, Except.error.injEq, Prod.mk.injEq] at h; omega
  | cons t q =>
    simp only [fmR] at h
    split at h
    · exact dfR_err hz hf h
    · split at h
      · rename_i e' hp
        simp only [Except.error.injEq] at h
        subst h
        exact prs_err n _ _ _ _ _ _ _ hp hz (by omega)
      · simp at h
theorem alR_err (n : Int) (F : Nat) : ∀ (g : Nat) (q : List Tok) (a e : Int), q.length < g → 3 * q.length + 3 ≤ F → alR n F g q = .error (a, e) → e = 9 ∨ e = 11
  | 0, _, _, _, h, _, _ => by omega
  | g + 1, [], a, e, _, _, h => by simp [alR] at h
  | g + 1, t :: r, a, e, hl, hF, h => by
    simp only [alR] at h
    cases hf : fmR n F (t :: r) 0 0 with
    | error p =>
      rw [hf] at h
      simp only [Except.error.injEq] at h
      subst h
      exact fmR_err (by omega) hF hf
    | ok p =>
      obtain ⟨fm, q, z⟩ := p
      have h1 := fmR_len (by omega) hf
      rw [hf] at h
      dsimp only at h
      simp only [List.length_cons] at hl hF h1
      cases ha : alR n F g q with
      | error p =>
        rw [ha] at h
        simp only [Except.error.injEq] at h
        subst h
        exact alR_err n F g q a e (by omega) (by omega) ha
      | ok l1 => rw [ha] at h; simp at h
/-- a source that is read -/
theorem parR_ok {s : ByteArray} (h : (parR s).2.2 = 0) : (tokR s).2.2 = 0 ∧ alR (s.size : Int) 12400 ((tokR s).1.length + 1) (tokR s).1 = .ok (parR s).1 ∧ (parR s).2.1 = 0 := by
  unfold parR at h ⊢
  by_cases h0 : (tokR s).2.2 = 0
  · rw [if_pos h0] at h ⊢
    cases ha : alR (s.size : Int) 12400 ((tokR s).1.length + 1) (tokR s).1 with
    | error p =>
      obtain ⟨a, e⟩ := p
      rw [ha] at h
      have := alR_err _ _ _ _ a e (by omega) (by have := tokR_len s; omega) ha
      dsimp only at h
      omega
    | ok l => exact ⟨h0, rfl, rfl⟩
  · rw [if_neg h0] at h
    exact absurd h h0
theorem parR_bad {s : ByteArray} (h : ¬ (parR s).2.2 = 0) : (parR s).1 = [] := by
  unfold parR at h ⊢
  split
  · rename_i h0
    rw [if_pos h0] at h
    cases ha : alR (s.size : Int) 12400 ((tokR s).1.length + 1) (tokR s).1 with
    | error p => rfl
    | ok l => rw [ha] at h; exact absurd rfl h
  · rfl
theorem parR_wf {s : ByteArray} : (parR s).1.length ≤ 4096 ∧ ∀ fm ∈ (parR s).1, Wff fm := by
  by_cases h : (parR s).2.2 = 0
  · obtain ⟨h0, h1, _⟩ := parR_ok h
    have hl := tokR_len s
    obtain ⟨h2, h3⟩ := alR_wf _ _ _ _ _ hl h1
    exact ⟨by omega, h3⟩
  · rw [parR_bad h]
    exact ⟨Nat.zero_le _, fun fm hf => by simp at hf⟩
/-- two sources, one on each line -/
theorem pjoin {s t : ByteArray} (h1 : (parR s).2.2 = 0) (h2 : (parR t).2.2 = 0) :
    ((s.size + t.size < 65536 ∧ (tokR s).1.length + (tokR t).1.length ≤ 4096) ∧ parR (s ++ ⟨#[10]⟩ ++ t) = ((parR s).1 ++ (parR t).1, 0, 0)) ∨ ((65536 ≤ s.size + t.size ∨ 4096 < (tokR s).1.length + (tokR t).1.length) ∧ (parR (s ++ ⟨#[10]⟩ ++ t)).2.2 = 11) := by
  obtain ⟨a1, a2, _⟩ := parR_ok h1
  obtain ⟨b1, b2, _⟩ := parR_ok h2
  have bad : (tokR (s ++ ⟨#[10]⟩ ++ t)).2.2 = 11 → (parR (s ++ ⟨#[10]⟩ ++ t)).2.2 = 11 := by
    intro h
    unfold parR
    rw [if_neg (by rw [h]; omega)]
    exact h
  by_cases hz : s.size + t.size < 65536
  · by_cases hn : (tokR s).1.length + (tokR t).1.length ≤ 4096
    · refine .inl ⟨⟨hz, hn⟩, ?_⟩
      have hj := joins_pure a1 b1 hz hn
      obtain ⟨J, hJ⟩ : ∃ J, J = s ++ ⟨#[10]⟩ ++ t := ⟨_, rfl⟩
      rw [← hJ] at hj ⊢
      have hB : alR (J.size : Int) 12400 ((tokR t).1.length + 1) ((tokR t).1.map (shT (s.size + 1))) = .ok (parR t).1 := by
        have := alR_join (t.size : Int) (J.size : Int) 12400 (s.size + 1) [] [] 1 rfl (by simp) ((tokR t).1.length + 1) (tokR t).1 (parR t).1 (by omega) b2
        rw [List.append_nil, List.append_nil] at this
        rw [← this]
        exact alR_fuel _ _ _ _ _ (by simp) (by simp; omega)
      have hA := alR_join (s.size : Int) (J.size : Int) 12400 0 ((tokR t).1.map (shT (s.size + 1))) (parR t).1 ((tokR t).1.length + 1) hB (by simp) ((tokR s).1.length + 1) (tokR s).1 (parR s).1 (by omega) a2
      rw [sh_map0] at hA
      have hC : alR (J.size : Int) 12400 (((tokR s).1 ++ (tokR t).1.map (shT (s.size + 1))).length + 1) ((tokR s).1 ++ (tokR t).1.map (shT (s.size + 1))) = .ok ((parR s).1 ++ (parR t).1) := by
        rw [← hA]
        exact alR_fuel _ _ _ _ _ (by omega) (by simp; omega)
      unfold parR at hC ⊢
      rw [hj]
      dsimp only
      rw [if_pos rfl, hC]
    · exact .inr ⟨.inr (by omega), bad (joins_over a1 b1 hz (by omega))⟩
  · exact .inr ⟨.inl (by omega), bad (joins_size (by omega))⟩
end Go.Proofs.YtapehdolnljnoaaGreatDoor
namespace Go.Proofs.YtapehdolnljnoaaGreatDoor
open Go.RowKit
set_option linter.unusedSimpArgs false
set_option linter.unusedVariables false
theorem VtAt.one {w : World} {S : Nat → Prop} {d : Nat} {t : Tre} {lv : Value} (h : VtAt w S d t lv) : lv.oneCell' = true := by
  obtain ⟨ao, cap, rfl⟩ := h.form
  rfl
theorem fC_one {fm : Fm} {bl il : Value} (h1 : bl.oneCell' = true) (h2 : il.oneCell' = true) : ∀ u ∈ fC fm bl il, u.oneCell' = true := by
  intro u hu
  simp only [fC, List.mem_cons, List.not_mem_nil, or_false] at hu
  rcases hu with rfl | rfl | rfl | rfl | rfl | rfl | rfl | rfl | rfl
  · rfl
  · rfl
  · rfl
  · rfl
  · exact h1
  · rfl
  · rfl
  · rfl
  · exact h2
theorem VfAt.lower {w : World} {B C d : Nat} {v : Value} {l : List Fm} (h : VfAt w B d v l) (hC : C ≤ B) : VfAt w C d v l := by
  obtain ⟨us, S, ho, ht, hS⟩ := h
  refine ⟨us, S, ⟨ho.1, ?_⟩, ht, fun b hb => ⟨Nat.le_trans hC (hS b hb).1, (hS b hb).2⟩⟩
  rcases ho.2 with g | ⟨g, cap, cur, h1, h2, h3⟩
  · exact .inl g
  · exact .inr ⟨g, cap, cur, h1, by omega, h3⟩
set_option maxRecDepth 100000 in
theorem app_rows {w : World} {B C d : Nat} {v v2 : Value} {l l2 : List Fm} (hf : VfAt w B d v l) (hf2 : VfAt w C d v2 l2) (hC : B ≤ C) (hv : ∀ k, v.ownBlock = some k → k < C) (hB : B ≤ w.heap.size) (hl : l.length + l2.length ≤ 8192) :
    ∃ v' w', (∀ ty, (Builtin.append_ #[27, 27] ty #[v, v2]).run Tryz.prog w = .ok v' w') ∧ VfAt w' B d v' (l ++ l2) ∧ Only (fun k => B ≤ k) w w' := by
  obtain ⟨i0, z0, hi, hz0, hz1, hz2, hz3⟩ := rf_info
  obtain ⟨us, S, ho, ht, hS⟩ := id hf
  obtain ⟨us2, S2, ho2, ht2, hS2⟩ := hf2
  rcases ho2.2 with ⟨rfl, h0⟩ | ⟨g, cap, cur, hv2, hCg, hg, hn, hcm, hcs, htk⟩
  · obtain rfl : l2 = [] := List.eq_nil_of_length_eq_zero h0
    refine ⟨v, w, fun ty => run_append_owned_none _ B 27 ty 77 i0 9 Tryz.underlying27 hi _ l.length us ho, by simpa using hf, Only.refl _ _⟩
  · have hone : ∀ u ∈ us2, u.oneCell' = true := by
      intro u hu
      obtain ⟨p, hp⟩ := List.getElem?_of_mem hu
      have hpl : p < us2.length := (List.getElem?_eq_some_iff.1 hp).1
      have hl2 := ho2.1
      have hj : p / 9 < l2.length := by omega
      obtain ⟨fm, hfm⟩ : ∃ fm, l2[p / 9]? = some fm := ⟨l2[p / 9]'hj, List.getElem?_eq_getElem hj⟩
      obtain ⟨bl, il, c0, c1, c2⟩ := ht2 _ fm hfm
      have hi9 : p % 9 < (fC fm bl il).length := by show p % 9 < 9; omega
      have hc := c0 (p % 9) _ (List.getElem?_eq_getElem hi9)
      rw [show p / 9 * 9 + p % 9 = p by omega, hp] at hc
      injection hc with hc
      rw [hc]
      exact fC_one c1.one c2.one _ (List.getElem_mem hi9)
    have key := fun ty => run_append_own_at (P := Tryz.prog) w B 27 ty 77 i0 z0 9 120 Tryz.underlying27 hi hz0 hz1 hz2 hz3 (by omega) v l.length us ho ⟨g, 0, none⟩ l2.length cap us2 ho2.1 (by
      intro j u hj
      exact ho2.cells (g := g) (by rw [hv2]; rfl) j u hj) hone (by unfold maxLen; omega) (by omega) hB
    obtain ⟨v', w', hr, own', hgr, _, hat⟩ := key 0
    have oo : Only (fun k => v.ownBlock = some k) w w' := (Only.refl _ w).grown hgr (fun k e _ => e)
    have a1 : ∀ b, S b → ¬ v.ownBlock = some b := fun b h => (hS b h).2.2
    have a2 : ∀ b, S2 b → ¬ v.ownBlock = some b := fun b h e => by have := hv b e; have := (hS2 b h).1; omega
    have hl1 : us.length = l.length * 9 := ho.1
    refine ⟨v', w', fun ty => ?_, ⟨us ++ us2, fun b => S b ∨ S2 b, by simpa using own', fun j x hx => ?_, fun b hb => ?_⟩, oo.mono (fun k hk e => (ho.lt k e).1)⟩
    · rw [hv2, ← hr]
      rfl
    · by_cases hj : j < l.length
      · rw [List.getElem?_append_left hj] at hx
        obtain ⟨bl', il', h0, h1, h2⟩ := ht j x hx
        refine ⟨bl', il', fun i u hu => ?_, h1.step (fun _ g => .inl g) (fun a y hs hc => oo.cell hc (a1 _ hs)) (Nat.le_refl _), h2.step (fun _ g => .inl g) (fun a y hs hc => oo.cell hc (a1 _ hs)) (Nat.le_refl _)⟩
        have := h0 i u hu
        rw [List.getElem?_append_left (List.getElem?_eq_some_iff.1 this).1]
        exact this
      · rw [List.getElem?_append_right (by omega)] at hx
        obtain ⟨bl', il', h0, h1, h2⟩ := ht2 _ x hx
        refine ⟨bl', il', fun i u hu => ?_, h1.step (fun _ g => .inr g) (fun a y hs hc => oo.cell hc (a2 _ hs)) (Nat.le_refl _), h2.step (fun _ g => .inr g) (fun a y hs hc => oo.cell hc (a2 _ hs)) (Nat.le_refl _)⟩
        have := h0 i u hu
        rw [List.getElem?_append_right (by omega), show j * 9 + i - us.length = (j - l.length) * 9 + i by omega]
        exact this
    · have h1 : B ≤ b ∧ b < w.heap.size ∧ v.ownBlock ≠ some b := by
        rcases hb with h | h
        · exact hS b h
        · exact ⟨Nat.le_trans hC (hS2 b h).1, (hS2 b h).2.1, a2 b h⟩
      refine ⟨h1.1, Nat.lt_of_lt_of_le h1.2.1 oo.size, ?_⟩
      rcases hat with e | e <;> rw [e]
      · exact h1.2.2
      · intro e2
        injection e2 with e2
        have := h1.2.1
        omega
/-- FormTrees of what Parse answered -/
theorem ft_any (s : ByteArray) (v : Value) (B : Nat) (w : World) (h : FsAt w B 12400 v (parR s).1) : Calls Tryz.prog 13 #[v] w fun e w' => ∃ ao cap, e = .returned (.slice ao (parR s).1.length cap) ∧ Hid (VfAt w' w.heap.size 12401 (.slice ao (parR s).1.length cap) (parR s).1 ∧ Only (fun _ => False) w w') := by
  obtain ⟨S, hr⟩ := h.read
  have hw := @parR_wf s
  exact formtrees_any 12400 v _ w S hr hw.1 (fun fm hf => (hw.2 fm hf).wfm)
end Go.Proofs.YtapehdolnljnoaaGreatDoor
namespace Go.Proofs.YtapehdolnljnoaaGreatDoor
open Go.RowKit
set_option linter.unusedSimpArgs false
set_option linter.unusedVariables false
theorem alI_wf (n : Int) (F : Nat) : ∀ (g : Nat) (q : List Tok) (l : List Tre), alI n F g q = .ok l → q.length ≤ 4096 → l.length ≤ q.length ∧ ∀ x ∈ l, WfT F x
  | 0, _, _, h, _ => by simp [alI] at h
  | g + 1, [], l, h, _ => by simp only [alI, Except.ok.injEq] at h; subst h; exact ⟨Nat.le_refl _, fun x hx => by simp at hx⟩
  | g + 1, t :: r, l, h, hl => by
    unfold alI at h
    cases hp : prs n F 1 (t :: r) 0 0 with
    | error e => rw [hp] at h; simp at h
    | ok p =>
      obtain ⟨l1, q, z⟩ := p
      rw [hp] at h
      dsimp only at h
      cases ha : alI n F g q with
      | error e => rw [ha] at h; simp at h
      | ok l2 =>
        rw [ha] at h
        simp only [Except.ok.injEq] at h
        subst h
        have h1 := prs_ok _ _ _ _ _ _ _ _ _ hp (by omega)
        have h2 := prs_wf _ _ _ _ _ _ _ _ _ hp (by omega) hl
        obtain ⟨h3, h4⟩ := alI_wf n F g q l2 ha (by omega)
        refine ⟨by rw [List.length_append]; omega, fun x hx => ?_⟩
        rcases List.mem_append.1 hx with hx | hx
        · exact h2 x hx
        · exact h4 x hx
theorem parI_wf (s : ByteArray) : (parI s).1.length ≤ 4096 ∧ ∀ x ∈ (parI s).1, WfT 12400 x := by
  unfold parI
  split
  · split
    · exact ⟨Nat.zero_le _, fun x hx => by simp at hx⟩
    · rename_i h
      have hl := tokR_len s
      obtain ⟨h1, h2⟩ := alI_wf _ _ _ _ _ h hl
      exact ⟨by dsimp only; omega, h2⟩
  · exact ⟨Nat.zero_le _, fun x hx => by simp at hx⟩
set_option maxRecDepth 100000 in
set_option maxHeartbeats 8000000 in
theorem preads_walk (s : ByteArray) (hs : s.size ≤ 140737488355328) (w : World) (h : Nog w) : Calls Tryz.prog 3 #[.string s] w fun e w' => e = .returned (.bool true) ∧ Below w.heap.size w w' := by
  have HA : Hid (Calls Tryz.prog 7 #[] w fun e w' => e = .returned (.bool true) ∧ Below w.heap.size w w') := awake_any w h
  have HP : Hid (∀ w1, Only (fun _ => False) w w1 → Calls Tryz.prog 8 #[.string s] w1 fun x w' => ∃ ao cap, x = .returned (.tuple #[.slice ao (parR s).1.length cap, .int .i64 (parR s).2.1, .int .i64 (parR s).2.2]) ∧ Hid (FsAt w' w1.heap.size 12400 (.slice ao (parR s).1.length cap) (parR s).1 ∧ Below w1.heap.size w1 w')) := fun w1 o1 => (parse_any s w1 (h.frame o1)).mono fun x w' g => by
    obtain ⟨v, he, g⟩ := g
    obtain ⟨ao, cap, hv⟩ := g.out.1.form
    subst hv
    exact ⟨ao, cap, he, g⟩
  have HR : Hid (∀ w1, Calls Tryz.prog 9 #[.string s, .bool true] w1 fun x w' => ∃ ao cap, x = .returned (.tuple #[.slice ao (parR s).1.length cap, .int .i64 (parR s).2.1, .int .i64 (parR s).2.2]) ∧ Hid (VfAt w' w1.heap.size 12401 (.slice ao (parR s).1.length cap) (parR s).1 ∧ Only (fun _ => False) w1 w')) := fun w1 => by
    have := rparse_any true s w1
    rw [parD_true] at this
    exact this
  have HQ : Hid (∀ w1, Only (fun _ => False) w w1 → Calls Tryz.prog 10 #[.string s] w1 fun x w' => ∃ ao cap, x = .returned (.tuple #[.slice ao (parI s).1.length cap, .int .i64 (parI s).2.1, .int .i64 (parI s).2.2]) ∧ Hid (RwAt w' w1.heap.size 54 12400 true (.slice ao (parI s).1.length cap) (parI s).1 ∧ Below w1.heap.size w1 w')) := fun w1 o1 => (items_any s w1 (h.frame o1)).mono fun x w' g => by
    obtain ⟨v, he, g⟩ := g
    obtain ⟨ao, cap, hv⟩ := g.out.1.form
    subst hv
    exact ⟨ao, cap, he, g⟩
  have HS : Hid (∀ w1, Calls Tryz.prog 11 #[.string s] w1 fun x w' => ∃ ao cap, x = .returned (.tuple #[.slice ao (parI s).1.length cap, .int .i64 (parI s).2.1, .int .i64 (parI s).2.2]) ∧ Hid (VrAt w' w1.heap.size 12401 (.slice ao (parI s).1.length cap) (parI s).1 ∧ Only (fun _ => False) w1 w')) := fun w1 => ritems_any s w1
  have HF : Hid (∀ v B w1, FsAt w1 B 12400 v (parR s).1 → Calls Tryz.prog 13 #[v] w1 fun e w' => ∃ ao cap, e = .returned (.slice ao (parR s).1.length cap) ∧ Hid (VfAt w' w1.heap.size 12401 (.slice ao (parR s).1.length cap) (parR s).1 ∧ Only (fun _ => False) w1 w')) := fun v B w1 h => ft_any s v B w1 h
  have HM : Hid (∀ va vb B B' w1, VfAt w1 B 12401 va (parR s).1 → VfAt w1 B' 12401 vb (parR s).1 → Calls Tryz.prog 12 #[va, vb] w1 fun e w' => e = .returned (.bool true) ∧ Only (fun _ => False) w1 w') := fun va vb B B' w1 h1 h2 => by
    obtain ⟨S1, q1⟩ := h1.read
    obtain ⟨S2, q2⟩ := h2.read
    have hw := @parR_wf s
    exact sameforms_any 12401 _ va vb w1 S1 S2 q1 q2 (by omega) (fun fm hf => ⟨(hw.2 fm hf).2.1, (hw.2 fm hf).2.2⟩)
  have HI : Hid (∀ v B w1, RwAt w1 B 54 12400 true v (parI s).1 → Calls Tryz.prog 15 #[v] w1 fun e w' => ∃ ao cap, e = .returned (.slice ao (parI s).1.length cap) ∧ Hid (VrAt w' w1.heap.size 12400 (.slice ao (parI s).1.length cap) (parI s).1 ∧ Only (fun _ => False) w1 w')) := fun v B w1 h => by
    obtain ⟨S, hq, _⟩ := h.seq
    have hw := parI_wf s
    exact itrees_any 12400 v _ w1 S hq hw.1 (fun x hx => ⟨_, hw.2 x hx⟩)
  have HT : Hid (∀ va vb B B' w1, VrAt w1 B 12400 va (parI s).1 → VrAt w1 B' 12401 vb (parI s).1 → Calls Tryz.prog 14 #[va, vb] w1 fun e w' => e = .returned (.bool true) ∧ Only (fun _ => False) w1 w') := fun va vb B B' w1 h1 h2 => by
    have hw := parI_wf s
    obtain ⟨S1, q1, _⟩ := (h1.tree (t := ⟨5, 0, ⟨#[]⟩, (parI s).1⟩) rfl).deep (d' := 12402) (by omega)
    obtain ⟨S2, q2, _⟩ := h2.tree (t := ⟨5, 0, ⟨#[]⟩, (parI s).1⟩) rfl
    exact (sameT_any 12402).1 _ va vb w1 S1 S2 q1 q2 ⟨12401, hw.1, hw.2⟩
  suffices H : Calls Tryz.prog 3 #[.string s] w fun e w' => e = .returned (.bool true) ∧ Only (fun _ => False) w w' from
    H.mono fun e w' h => ⟨h.1, h.2.os, h.2.tape, h.2.output, h.2.size, fun k hk => h.2.block k hk (fun g => g)⟩
  clear h hs
  obtain ⟨l, hl⟩ : ∃ l, l = (parR s).1 := ⟨_, rfl⟩
  obtain ⟨p1, hp1⟩ : ∃ l, l = (parR s).2.1 := ⟨_, rfl⟩
  obtain ⟨p2, hp2⟩ : ∃ l, l = (parR s).2.2 := ⟨_, rfl⟩
  obtain ⟨m, hm⟩ : ∃ l, l = (parI s).1 := ⟨_, rfl⟩
  obtain ⟨q1, hq1⟩ : ∃ l, l = (parI s).2.1 := ⟨_, rfl⟩
  obtain ⟨q2, hq2⟩ : ∃ l, l = (parI s).2.2 := ⟨_, rfl⟩
  rw [← hl, ← hp1, ← hp2] at HP HR
  rw [← hm, ← hq1, ← hq2] at HQ HS
  rw [← hl] at HF HM
  rw [← hm] at HI HT
  clear hl hp1 hp2 hm hq1 hq2
  obtain ⟨N, hN⟩ : ∃ N, N = l.length := ⟨_, rfl⟩
  obtain ⟨M, hM⟩ : ∃ N, N = m.length := ⟨_, rfl⟩
  rw [← hN] at HP HR HF
  rw [← hM] at HQ HS HI
  clear hN hM
  go_enter Tryz.func3, Tryz.ntmps3
  go_wp2_with fail
  refine (show Calls Tryz.prog 7 _ _ _ from HA.out).mono ?_
  rintro e w1 ⟨rfl, o1⟩
  have O1 : Hid (Only (fun _ => False) w w1) := below_only o1
  clear HA o1
  go_wp2_with fail
  refine (show Calls Tryz.prog 8 _ _ _ from HP.out _ O1.out).mono ?_
  rintro e w2 ⟨a1, c1, rfl, g2⟩
  have O2 : Hid (Only (fun _ => False) w w2) := O1.out.trans (below_only g2.out.2) (fun _ _ g => g)
  have F2 : Hid (∃ B, FsAt w2 B 12400 (.slice a1 N c1) l) := ⟨_, g2.out.1⟩
  clear HP O1 g2
  go_wp2_with fail
  refine (show Calls Tryz.prog 9 _ _ _ from HR.out _).mono ?_
  rintro e w3 ⟨a2, c2, rfl, g3⟩
  have O3 : Hid (Only (fun _ => False) w w3) := O2.out.trans g3.out.2 (fun _ _ g => g)
  have F3 : Hid ((∃ B, FsAt w3 B 12400 (.slice a1 N c1) l) ∧ ∃ B, VfAt w3 B 12401 (.slice a2 N c2) l) := ⟨by obtain ⟨B, hB⟩ := F2.out; exact ⟨B, hB.only g3.out.2 (fun _ _ h => h)⟩, ⟨_, g3.out.1⟩⟩
  clear HR O2 F2 g3
  go_wp2_with fail
  refine (show Calls Tryz.prog 10 _ _ _ from HQ.out _ O3.out).mono ?_
  rintro e w4 ⟨a3, c3, rfl, g4⟩
  have o4 := below_only g4.out.2
  have O4 : Hid (Only (fun _ => False) w w4) := O3.out.trans o4 (fun _ _ g => g)
  have F4 : Hid ((∃ B, FsAt w4 B 12400 (.slice a1 N c1) l) ∧ (∃ B, VfAt w4 B 12401 (.slice a2 N c2) l) ∧ ∃ B, RwAt w4 B 54 12400 true (.slice a3 M c3) m) := by
    obtain ⟨⟨B, hB⟩, ⟨C, hC⟩⟩ := F3.out
    exact ⟨⟨B, hB.only o4 (fun _ _ h => h)⟩, ⟨C, hC.only o4 (fun _ _ h => h)⟩, ⟨_, g4.out.1⟩⟩
  clear HQ O3 F3 g4 o4
  go_wp2_with fail
  refine (show Calls Tryz.prog 11 _ _ _ from HS.out _).mono ?_
  rintro e w5 ⟨a4, c4, rfl, g5⟩
  have o5 := g5.out.2
  have O5 : Hid (Only (fun _ => False) w w5) := O4.out.trans o5 (fun _ _ g => g)
  have F5 : Hid ((∃ B, FsAt w5 B 12400 (.slice a1 N c1) l) ∧ (∃ B, VfAt w5 B 12401 (.slice a2 N c2) l) ∧ (∃ B, RwAt w5 B 54 12400 true (.slice a3 M c3) m) ∧ ∃ B, VrAt w5 B 12401 (.slice a4 M c4) m) := by
    obtain ⟨⟨B, hB⟩, ⟨C, hC⟩, ⟨D, hD⟩⟩ := F4.out
    exact ⟨⟨B, hB.only o5 (fun _ _ h => h)⟩, ⟨C, hC.only o5 (fun _ _ h => h)⟩, ⟨D, hD.only o5 (fun _ _ h => h)⟩, ⟨_, g5.out.1⟩⟩
  have HF5 : Hid (Calls Tryz.prog 13 #[.slice a1 N c1] w5 fun e w' => ∃ ao cap, e = .returned (.slice ao N cap) ∧ Hid (VfAt w' w5.heap.size 12401 (.slice ao N cap) l ∧ Only (fun _ => False) w5 w')) := by
    obtain ⟨B, hB⟩ := F5.out.1
    exact HF.out _ B w5 hB
  clear HS O4 F4 g5 o5 HF
  go_wp2_with fail
  refine (show Calls Tryz.prog 13 _ _ _ from HF5.out).mono ?_
  rintro e w6 ⟨a5, c5, rfl, g6⟩
  have o6 := g6.out.2
  have O6 : Hid (Only (fun _ => False) w w6) := O5.out.trans o6 (fun _ _ g => g)
  have F6 : Hid ((∃ B, RwAt w6 B 54 12400 true (.slice a3 M c3) m) ∧ ∃ B, VrAt w6 B 12401 (.slice a4 M c4) m) := by
    obtain ⟨_, _, ⟨D, hD⟩, ⟨E, hE⟩⟩ := F5.out
    exact ⟨⟨D, hD.only o6 (fun _ _ h => h)⟩, ⟨E, hE.only o6 (fun _ _ h => h)⟩⟩
  have HM6 : Hid (Calls Tryz.prog 12 #[.slice a5 N c5, .slice a2 N c2] w6 fun e w' => e = .returned (.bool true) ∧ Only (fun _ => False) w6 w') := by
    obtain ⟨_, ⟨C, hC⟩, _⟩ := F5.out
    exact HM.out _ _ _ C w6 g6.out.1 (hC.only o6 (fun _ _ h => h))
  clear HF5 O5 F5 g6 o6 HM
  go_wp2_with fail
  refine (show Calls Tryz.prog 12 _ _ _ from HM6.out).mono ?_
  rintro e w7 ⟨rfl, o7⟩
  have O7 : Hid (Only (fun _ => False) w w7) := O6.out.trans o7 (fun _ _ g => g)
  have F7 : Hid (∃ B, VrAt w7 B 12401 (.slice a4 M c4) m) := by
    obtain ⟨_, ⟨E, hE⟩⟩ := F6.out
    exact ⟨E, hE.only o7 (fun _ _ h => h)⟩
  have HI7 : Hid (Calls Tryz.prog 15 #[.slice a3 M c3] w7 fun e w' => ∃ ao cap, e = .returned (.slice ao M cap) ∧ Hid (VrAt w' w7.heap.size 12400 (.slice ao M cap) m ∧ Only (fun _ => False) w7 w')) := by
    obtain ⟨⟨D, hD⟩, _⟩ := F6.out
    exact HI.out _ D w7 (hD.only o7 (fun _ _ h => h))
  clear HM6 O6 F6 o7 HI
  go_wp2_with fail
  refine (show Calls Tryz.prog 15 _ _ _ from HI7.out).mono ?_
  rintro e w8 ⟨a6, c6, rfl, g8⟩
  have O8 : Hid (Only (fun _ => False) w w8) := O7.out.trans g8.out.2 (fun _ _ g => g)
  have HT8 : Hid (Calls Tryz.prog 14 #[.slice a6 M c6, .slice a4 M c4] w8 fun e w' => e = .returned (.bool true) ∧ Only (fun _ => False) w8 w') := by
    obtain ⟨E, hE⟩ := F7.out
    exact HT.out _ _ _ E w8 g8.out.1 (hE.only g8.out.2 (fun _ _ h => h))
  clear HI7 O7 F7 g8 HT
  go_wp2_with fail
  refine (show Calls Tryz.prog 14 _ _ _ from HT8.out).mono ?_
  rintro e w9 ⟨rfl, o9⟩
  have O9 : Hid (Only (fun _ => False) w w9) := O8.out.trans o9 (fun _ _ g => g)
  clear HT8 O8 o9
  go_wp2
  go_ret
  exact ⟨rfl, O9.out⟩
end Go.Proofs.YtapehdolnljnoaaGreatDoor
