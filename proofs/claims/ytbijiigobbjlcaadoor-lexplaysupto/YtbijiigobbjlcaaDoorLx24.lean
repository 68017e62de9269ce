/- Where tokens stand: the pure facts of LexPlaces. -/
import Derived.Test.YtbijiigobbjlcaaDoorLx23
import Derived.Lib.RuneCountTail
namespace Go.Proofs.YtbijiigobbjlcaaDoor
open Go.RowKit Go.Lib
set_option linter.unusedSimpArgs false
set_option linter.unusedVariables false
theorem fndL_spec (p : Nat → Bool) (a n : Nat) (S : ByteArray) (hn : n = a + S.size) : ∀ (b pos : Nat), S.size ≤ pos + b → fndL p a n (crs S b pos) < n → p (Utf8.decode S (fndL p a n (crs S b pos) - a)).1 = true
  | 0, pos, _, h => by
    exfalso
    simp [crs, fndL] at h
  | b + 1, pos, hb, h => by
    by_cases hp : pos < S.size
    · rw [show crs S (b + 1) pos = (pos, (Utf8.decode S pos).1) :: crs S b (pos + (Utf8.decode S pos).2) by simp [crs, hp]] at h ⊢
      have hw := wid_pos S pos hp
      unfold fndL at h ⊢
      by_cases hq : p (Utf8.decode S pos).1 = true
      · rw [if_pos hq, Nat.add_sub_cancel_left]
        exact hq
      · rw [if_neg hq] at h ⊢
        exact fndL_spec p a n S hn b _ (by omega) h
    · rw [crs_end hp] at h
      exact absurd h (Nat.lt_irrefl _)
theorem fnd_spec (p : Nat → Bool) {s : ByteArray} {a : Nat} (ha : a ≤ s.size) (h : fnd p s a < s.size) : p (Utf8.decode s (fnd p s a)).1 = true := by
  have hz : (s.extract a s.size).size = s.size - a := by rw [ByteArray.size_extract]; omega
  have hl := fnd_le p s ha
  have := fndL_spec p a s.size (s.extract a s.size) (by omega) _ 0 (by omega) h
  rw [tail_decode] at this
  have e : a + (fnd p s a - a) = fnd p s a := by omega
  unfold fnd at e
  rw [e] at this
  exact this
theorem bgn_nb (s : ByteArray) (f : Nat) : ∀ (a : Nat), a ≤ s.size → s.size - a < f → bgn s f a < s.size → blk (Utf8.decode s (bgn s f a)).1 = false := by
  induction f with
  | zero => intro a h hf _; omega
  | succ f ih =>
    intro a h hf hb
    have h1 := fnd_le (fun c => !blk c) s h
    unfold bgn at hb ⊢
    by_cases hr : rmk s (fnd (fun c => !blk c) s a) = true
    · rw [if_pos hr] at hb ⊢
      have h2 := fnd_le (fun c => decide (c = 10)) s h1.2
      have h3 := rmk_go h1.2 hr
      exact ih _ h2.2 (by omega) hb
    · rw [if_neg hr] at hb ⊢
      have := fnd_spec (fun c => !blk c) h hb
      simpa using this
theorem bg_bd {s : ByteArray} {a : Nat} (ha : a ≤ s.size) : a ≤ bg s a ∧ bg s a ≤ s.size := bgn_bd s _ a ha
theorem bg_nb {s : ByteArray} {a : Nat} (ha : a ≤ s.size) (h : bg s a < s.size) : blk (Utf8.decode s (bg s a)).1 = false := bgn_nb s _ a ha (by omega) h
/-- A character is a quote just where its byte is. -/
theorem quote_byte {s : ByteArray} {a : Nat} (ha : a < s.size) : (byN s a = 34) ↔ ((Utf8.decode s a).1 = 34) := by
  unfold byN
  rw [← get_bang s a ha]
  by_cases h : (s[a]'ha).toNat < 128
  · rw [decode_ascii s a ha h]
  · have := (decode_high s a ha (by omega)).1
    constructor <;> intro g <;> omega
/-- What a token at a place is. -/
structure TkOk (s : ByteArray) (a : Nat) (t : Tok) : Prop where
  at_ : t.a = (a : Int)
  nb : blk (Utf8.decode s a).1 = false
  str : (t.k = 3) ↔ ((Utf8.decode s a).1 = 34)
  word : t.k = 1 → t.t.size ≤ s.size - a ∧ s.extract a (a + t.t.size) = t.t ∧ nameB t.t = true
def Chain (s : ByteArray) : Int → List Tok → Prop
  | _, [] => True
  | last, t :: r => ∃ a : Nat, last < (a : Int) ∧ a < s.size ∧ TkOk s a t ∧ Chain s (a : Int) r
theorem numR_three (b : ByteArray) : (numR b).2 = 0 ∨ (numR b).2 = 9 ∨ (numR b).2 = 11 := by
  unfold numR
  split
  · exact .inr (.inl rfl)
  · split
    · exact .inl rfl
    · split
      · exact .inl rfl
      · exact .inr (.inr rfl)
theorem strG_kind (a n : Nat) : ∀ (l : List (Nat × Nat)) (e : Bool) (out : List Nat), (strG a n l e out).2.2 = 0 → (strG a n l e out).1.k = 3 ∧ (strG a n l e out).1.a = (a : Int)
  | [], true, out => by intro h; simp [strG] at h
  | [], false, out => by intro h; simp [strG] at h
  | (i, c) :: r, true, out => by
    simp only [strG]
    cases une c with
    | none => intro h; simp at h
    | some m => exact strG_kind a n r _ _
  | (i, c) :: r, false, out => by
    simp only [strG]
    split
    · exact strG_kind a n r _ _
    · split
      · split
        · intro h; simp at h
        · intro _; exact ⟨rfl, rfl⟩
      · exact strG_kind a n r _ _
theorem red_ok {s : ByteArray} {a : Nat} (ha : a < s.size) (hb : blk (Utf8.decode s a).1 = false) (h : (redR s a).2.2 = 0) : TkOk s a (redR s a).1 := by
  have hq := quote_byte ha
  unfold redR at h ⊢
  by_cases h34 : byN s a = 34
  · rw [if_pos h34] at h ⊢
    have := strG_kind a s.size _ _ _ h
    exact ⟨this.2, hb, ⟨fun _ => hq.1 h34, fun _ => this.1⟩, fun g => by have g3 : (strR s a).1.k = 3 := this.1; omega⟩
  · rw [if_neg h34] at h ⊢
    have hf := fnd_le (fun c => blk c) s (Nat.le_of_lt ha)
    have n34 : ¬ (Utf8.decode s a).1 = 34 := fun g => h34 (hq.2 g)
    have h3 := numR_three (s.extract a (fnd (fun c => blk c) s a))
    unfold wrdR at h ⊢
    dsimp only at h ⊢
    by_cases k0 : (numR (s.extract a (fnd (fun c => blk c) s a))).2 = 0
    · rw [if_pos k0]
      exact ⟨rfl, hb, ⟨fun g => absurd g (by simp), fun g => absurd g n34⟩, fun g => absurd g (by simp)⟩
    · rw [if_neg k0] at h ⊢
      by_cases k1 : (numR (s.extract a (fnd (fun c => blk c) s a))).2 = 11
      · rw [if_pos k1] at h
        exact absurd h (by simp)
      · rw [if_neg k1] at h ⊢
        by_cases k2 : nmdB (s.extract a (fnd (fun c => blk c) s a)) = false
        · rw [if_pos k2] at h
          exact absurd h (by simp)
        · rw [if_neg k2]
          refine ⟨rfl, hb, ⟨fun g => absurd g (by simp), fun g => absurd g n34⟩, fun _ => ⟨?_, ?_, ?_⟩⟩
          · show (s.extract a (fnd (fun c => blk c) s a)).size ≤ s.size - a
            rw [ByteArray.size_extract]
            omega
          · show s.extract a (a + (s.extract a (fnd (fun c => blk c) s a)).size) = s.extract a (fnd (fun c => blk c) s a)
            rw [ByteArray.size_extract]
            congr 1
            omega
          · show nameB (s.extract a (fnd (fun c => blk c) s a)) = true
            unfold nameB
            simp only [Bool.and_eq_true, decide_eq_true_eq]
            exact ⟨by omega, by simpa using k2⟩
theorem tokG_chain (s : ByteArray) : ∀ (f a : Nat) (acc : List Tok), a ≤ s.size → (a < s.size → blk (Utf8.decode s a).1 = false) → (tokG s f a acc).2.2 = 0 → ∃ r, (tokG s f a acc).1 = acc ++ r ∧ ∀ last : Int, last < (a : Int) → Chain s last r
  | 0, a, acc, _, _, _ => ⟨[], by simp [tokG], fun _ _ => trivial⟩
  | f + 1, a, acc, ha, hb, h => by
    unfold tokG at h ⊢
    by_cases h1 : a < s.size
    · rw [if_pos h1] at h ⊢
      by_cases h2 : (redR s a).2.2 = 0
      · rw [if_pos h2] at h ⊢
        by_cases h3 : acc.length = 4096
        · rw [if_pos h3] at h
          exact absurd h (by simp)
        · rw [if_neg h3] at h ⊢
          have hg := red_go h1 h2
          have hbd := bg_bd hg.2
          obtain ⟨r, e, c⟩ := tokG_chain s f _ _ hbd.2 (fun g => bg_nb hg.2 g) h
          refine ⟨(redR s a).1 :: r, by rw [e]; simp, fun last hl => ⟨a, hl, h1, red_ok h1 (hb h1) h2, c _ ?_⟩⟩
          omega
      · rw [if_neg h2] at h
        exact absurd h h2
    · rw [if_neg h1]
      exact ⟨[], by simp, fun _ _ => trivial⟩
theorem tokR_chain {s : ByteArray} (h : (tokR s).2.2 = 0) : Chain s (-1) (tokR s).1 := by
  unfold tokR at h ⊢
  split at h
  · exact absurd h (by simp)
  · rw [if_neg (by assumption)]
    split at h
    · exact absurd h (by simp)
    · rw [if_neg (by assumption)]
      have hbd := bg_bd (s := s) (Nat.zero_le _)
      obtain ⟨r, e, c⟩ := tokG_chain s _ _ [] hbd.2 (fun g => bg_nb (Nat.zero_le _) g) h
      rw [show (tokG s (s.size + 1) (bg s 0) []).1 = r from e]
      exact c _ (by omega)
theorem stL_le (s : ByteArray) : ∀ (b pos : Nat), stL s (crs s b pos) ≤ s.size
  | 0, pos => by simp [crs, stL]
  | b + 1, pos => by
    by_cases hp : pos < s.size
    · rw [show crs s (b + 1) pos = (pos, (Utf8.decode s pos).1) :: crs s b (pos + (Utf8.decode s pos).2) by simp [crs, hp]]
      unfold stL
      split
      · exact Nat.le_of_lt hp
      · exact stL_le s b _
    · rw [crs_end hp]
      exact Nat.le_refl _
theorem strG_le (a n : Nat) (S : ByteArray) (hS : a + 1 + S.size ≤ n) : ∀ (b pos : Nat) (e : Bool) (out : List Nat), (strG a n (crs S b pos) e out).2.1 ≤ n
  | 0, pos, true, out => by simp only [crs, strG]; omega
  | 0, pos, false, out => by simp only [crs, strG]; omega
  | b + 1, pos, e, out => by
    by_cases hp : pos < S.size
    · rw [show crs S (b + 1) pos = (pos, (Utf8.decode S pos).1) :: crs S b (pos + (Utf8.decode S pos).2) by simp [crs, hp]]
      cases e with
      | true =>
        simp only [strG]
        cases une (Utf8.decode S pos).1 with
        | none => show a + pos ≤ n; omega
        | some m => exact strG_le a n S hS b _ _ _
      | false =>
        simp only [strG]
        split
        · exact strG_le a n S hS b _ _ _
        · split
          · split
            · show a ≤ n; omega
            · show a + pos + 2 ≤ n; omega
          · exact strG_le a n S hS b _ _ _
    · rw [crs_end hp]
      cases e <;> simp only [strG] <;> omega
theorem red_le {s : ByteArray} {a : Nat} (ha : a < s.size) : (redR s a).2.1 ≤ s.size := by
  unfold redR
  split
  · exact strG_le a s.size _ (by rw [ByteArray.size_extract]; omega) _ _ _ _
  · have hf := fnd_le (fun c => blk c) s (Nat.le_of_lt ha)
    unfold wrdR
    dsimp only
    split
    · exact hf.2
    · split
      · exact Nat.le_of_lt ha
      · split
        · exact Nat.le_of_lt ha
        · exact hf.2
theorem tokG_le (s : ByteArray) : ∀ (f a : Nat) (acc : List Tok), (tokG s f a acc).2.2 ≠ 0 → (tokG s f a acc).1 = [] ∧ (tokG s f a acc).2.1 ≤ s.size
  | 0, a, acc => fun h => absurd rfl h
  | f + 1, a, acc => by
    unfold tokG
    split
    · split
      · split
        · intro _; exact ⟨rfl, by show a ≤ s.size; omega⟩
        · exact tokG_le s f _ _
      · intro _; exact ⟨rfl, red_le (by assumption)⟩
    · intro h; exact absurd rfl h
theorem tokR_le {s : ByteArray} (h : (tokR s).2.2 ≠ 0) : (tokR s).1 = [] ∧ (tokR s).2.1 ≤ s.size := by
  unfold tokR at h ⊢
  split
  · exact ⟨rfl, Nat.zero_le _⟩
  · rw [if_neg (by assumption)] at h
    split
    · exact ⟨rfl, by show stR s ≤ s.size; omega⟩
    · rw [if_neg (by assumption)] at h
      exact tokG_le s _ _ _ h
/-- A token's cells among all. -/
theorem tkCs_get : ∀ (l : List Tok) (i : Nat) (t : Tok), l[i]? = some t → (tkCs l)[i * 4]? = some (.int .i64 t.k) ∧ (tkCs l)[i * 4 + 1]? = some (.string t.t) ∧ (tkCs l)[i * 4 + 2]? = some (.int .i64 t.n) ∧ (tkCs l)[i * 4 + 3]? = some (.int .i64 t.a)
  | [], i, t, h => by simp at h
  | x :: l, 0, t, h => by
    simp only [List.getElem?_cons_zero, Option.some.injEq] at h
    subst h
    simp [tkCs]
  | x :: l, i + 1, t, h => by
    have := tkCs_get l i t (by simpa using h)
    have e : ∀ k, (tkCs (x :: l))[k + 4]? = (tkCs l)[k]? := fun k => by simp [tkCs]
    rw [show (i + 1) * 4 = i * 4 + 4 by omega, show i * 4 + 4 + 1 = i * 4 + 1 + 4 by omega, show i * 4 + 4 + 2 = i * 4 + 2 + 4 by omega, show i * 4 + 4 + 3 = i * 4 + 3 + 4 by omega, e, e, e, e]
    exact this
end Go.Proofs.YtbijiigobbjlcaaDoor
