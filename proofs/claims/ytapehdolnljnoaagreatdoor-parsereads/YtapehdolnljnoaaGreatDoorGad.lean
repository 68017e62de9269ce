/- Where tokens stand: the pure facts of LexPlaces. A call of a function within a region that draws. LexPlaces: the walk. Texts as rows of characters: what is decoded, found and skipped. Tokens of texts that are put together. LexJoins: the walk. The characters of a text, as the document has them: Chars and Bad. Bad: the place of the first byte that belongs to no character; and LexComments. -/
import Derived.Test.YtapehdolnljnoaaGreatDoorGac
import Derived.Lib.RuneCountTail
import Derived.Test.YtapehdolnljnoaaGreatDoorGaa
import Derived.Deep.RegionHeld3
import Derived.BigQuiet
namespace Go.Proofs.YtapehdolnljnoaaGreatDoor
open Go.RowKit Go.Lib
set_option linter.unusedSimpArgs false
set_option linter.unusedVariables false
theorem fndL_spec (p : Nat → Bool) (a n : Nat) (S : ByteArray) (hn : n = a + S.size) : ∀ (b pos : Nat), S.size ≤ pos + b → fndL p a n (crs S b pos) < n → p (Utf8.decode S (fndL p a n (crs S b pos) - a)).1 = true
  | 0, pos, _, h => by
    exfalso
    simp [crs, fndL] at h
  | b + 1, pos, hb, h => by
    by_cases hp : pos < S.size
    · rw [show crs S (b + 1) pos = (pos, (Utf8.decode S pos).1) :: crs S b (pos + (Utf8.decode S pos).2) by simp [crs, hp]] at h ⊢
      have hw := wid_pos S pos hp
      unfold fndL at h ⊢
      by_cases hq : p (Utf8.decode S pos).1 = true
      · rw [if_pos hq, Nat.add_sub_cancel_left]
        exact hq
      · rw [if_neg hq] at h ⊢
        exact fndL_spec p a n S hn b _ (by omega) h
    · rw [crs_end hp] at h
      exact absurd h (Nat.lt_irrefl _)
theorem fnd_spec (p : Nat → Bool) {s : ByteArray} {a : Nat} (ha : a ≤ s.size) (h : fnd p s a < s.size) : p (Utf8.decode s (fnd p s a)).1 = true := by
  have hz : (s.extract a s.size).size = s.size - a := by rw [ByteArray.size_extract]; omega
  have hl := fnd_le p s ha
  have := fndL_spec p a s.size (s.extract a s.size) (by omega) _ 0 (by omega) h
  rw [tail_decode] at this
  have e : a + (fnd p s a - a) = fnd p s a := by omega
  unfold fnd at e
  rw [e] at this
  exact this
theorem bgn_nb (s : ByteArray) (f : Nat) : ∀ (a : Nat), a ≤ s.size → s.size - a < f → bgn s f a < s.size → blk (Utf8.decode s (bgn s f a)).1 = false := by
  induction f with
  | zero => intro a h hf _; omega
  | succ f ih =>
    intro a h hf hb
    have h1 := fnd_le (fun c => !blk c) s h
    unfold bgn at hb ⊢
    by_cases hr : rmk s (fnd (fun c => !blk c) s a) = true
    · rw [if_pos hr] at hb ⊢
      have h2 := fnd_le (fun c => decide (c = 10)) s h1.2
      have h3 := rmk_go h1.2 hr
      exact ih _ h2.2 (by omega) hb
    · rw [if_neg hr] at hb ⊢
      have := fnd_spec (fun c => !blk c) h hb
      simpa using this
theorem bg_bd {s : ByteArray} {a : Nat} (ha : a ≤ s.size) : a ≤ bg s a ∧ bg s a ≤ s.size := bgn_bd s _ a ha
theorem bg_nb {s : ByteArray} {a : Nat} (ha : a ≤ s.size) (h : bg s a < s.size) : blk (Utf8.decode s (bg s a)).1 = false := bgn_nb s _ a ha (by omega) h
/-- A character is a quote just where its byte is. -/
theorem quote_byte {s : ByteArray} {a : Nat} (ha : a < s.size) : (byN s a = 34) ↔ ((Utf8.decode s a).1 = 34) := by
  unfold byN
  rw [← get_bang s a ha]
  by_cases h : (s[a]'ha).toNat < 128
  · rw [decode_ascii s a ha h]
  · have := (decode_high s a ha (by omega)).1
    constructor <;> intro g <;> omega
/-- What a token at a place is. -/
structure TkOk (s : ByteArray) (a : Nat) (t : Tok) : Prop where
  at_ : t.a = (a : Int)
  nb : blk (Utf8.decode s a).1 = false
  str : (t.k = 3) ↔ ((Utf8.decode s a).1 = 34)
  word : t.k = 1 → t.t.size ≤ s.size - a ∧ s.extract a (a + t.t.size) = t.t ∧ nameB t.t = true
def Chain (s : ByteArray) : Int → List Tok → Prop
  | _, [] => True
  | last, t :: r => ∃ a : Nat, last < (a : Int) ∧ a < s.size ∧ TkOk s a t ∧ Chain s (a : Int) r
theorem numR_three (b : ByteArray) : (numR b).2 = 0 ∨ (numR b).2 = 9 ∨ (numR b).2 = 11 := by
  unfold numR
  split
  · exact .inr (.inl rfl)
  · split
    · exact .inl rfl
    · split
      · exact .inl rfl
      · exact .inr (.inr rfl)
theorem strG_kind (a n : Nat) : ∀ (l : List (Nat × Nat)) (e : Bool) (out : List Nat), (strG a n l e out).2.2 = 0 → (strG a n l e out).1.k = 3 ∧ (strG a n l e out).1.a = (a : Int)
  | [], true, out => by intro h; simp [strG] at h
  | [], false, out => by intro h; simp [strG] at h
  | (i, c) :: r, true, out => by
    simp only [strG]
    cases une c with
    | none => intro h; simp at h
    | some m => exact strG_kind a n r _ _
  | (i, c) :: r, false, out => by
    simp only [strG]
    split
    · exact strG_kind a n r _ _
    · split
      · split
        · intro h; simp at h
        · intro _; exact ⟨rfl, rfl⟩
      · exact strG_kind a n r _ _
theorem red_ok {s : ByteArray} {a : Nat} (ha : a < s.size) (hb : blk (Utf8.decode s a).1 = false) (h : (redR s a).2.2 = 0) : TkOk s a (redR s a).1 := by
  have hq := quote_byte ha
  unfold redR at h ⊢
  by_cases h34 : byN s a = 34
  · rw [if_pos h34] at h ⊢
    have := strG_kind a s.size _ _ _ h
    exact ⟨this.2, hb, ⟨fun _ => hq.1 h34, fun _ => this.1⟩, fun g => by have g3 : (strR s a).1.k = 3 := this.1; omega⟩
  · rw [if_neg h34] at h ⊢
    have hf := fnd_le (fun c => blk c) s (Nat.le_of_lt ha)
    have n34 : ¬ (Utf8.decode s a).1 = 34 := fun g => h34 (hq.2 g)
    have h3 := numR_three (s.extract a (fnd (fun c => blk c) s a))
    unfold wrdR at h ⊢
    dsimp only at h ⊢
    by_cases k0 : (numR (s.extract a (fnd (fun c => blk c) s a))).2 = 0
    · rw [if_pos k0]
      exact ⟨rfl, hb, ⟨fun g => absurd g (by simp), fun g => absurd g n34⟩, fun g => absurd g (by simp)⟩
    · rw [if_neg k0] at h ⊢
      by_cases k1 : (numR (s.extract a (fnd (fun c => blk c) s a))).2 = 11
      · rw [if_pos k1] at h
        exact absurd h (by simp)
      · rw [if_neg k1] at h ⊢
        by_cases k2 : nmdB (s.extract a (fnd (fun c => blk c) s a)) = false
        · rw [if_pos k2] at h
          exact absurd h (by simp)
        · rw [if_neg k2]
          refine ⟨rfl, hb, ⟨fun g => absurd g (by simp), fun g => absurd g n34⟩, fun _ => ⟨?_, ?_, ?_⟩⟩
          · show (s.extract a (fnd (fun c => blk c) s a)).size ≤ s.size - a
            rw [ByteArray.size_extract]
            omega
          · show s.extract a (a + (s.extract a (fnd (fun c => blk c) s a)).size) = s.extract a (fnd (fun c => blk c) s a)
            rw [ByteArray.size_extract]
            congr 1
            omega
          · show nameB (s.extract a (fnd (fun c => blk c) s a)) = true
            unfold nameB
            simp only [Bool.and_eq_true, decide_eq_true_eq]
            exact ⟨by omega, by simpa using k2⟩
theorem tokG_chain (s : ByteArray) : ∀ (f a : Nat) (acc : List Tok), a ≤ s.size → (a < s.size → blk (Utf8.decode s a).1 = false) → (tokG s f a acc).2.2 = 0 → ∃ r, (tokG s f a acc).1 = acc ++ r ∧ ∀ last : Int, last < (a : Int) → Chain s last r
  | 0, a, acc, _, _, _ => ⟨[], by simp [tokG], fun _ _ => trivial⟩
  | f + 1, a, acc, ha, hb, h => by
    unfold tokG at h ⊢
    by_cases h1 : a < s.size
    · rw [if_pos h1] at h ⊢
      by_cases h2 : (redR s a).2.2 = 0
      · rw [if_pos h2] at h ⊢
        by_cases h3 : acc.length = 4096
        · rw [if_pos h3] at h
          exact absurd h (by simp)
        · rw [if_neg h3] at h ⊢
          have hg := red_go h1 h2
          have hbd := bg_bd hg.2
          obtain ⟨r, e, c⟩ := tokG_chain s f _ _ hbd.2 (fun g => bg_nb hg.2 g) h
          refine ⟨(redR s a).1 :: r, by rw [e]; simp, fun last hl => ⟨a, hl, h1, red_ok h1 (hb h1) h2, c _ ?_⟩⟩
          omega
      · rw [if_neg h2] at h
        exact absurd h h2
    · rw [if_neg h1]
      exact ⟨[], by simp, fun _ _ => trivial⟩
theorem tokR_chain {s : ByteArray} (h : (tokR s).2.2 = 0) : Chain s (-1) (tokR s).1 := by
  unfold tokR at h ⊢
  split at h
  · exact absurd h (by simp)
  · rw [if_neg (by assumption)]
    split at h
    · exact absurd h (by simp)
    · rw [if_neg (by assumption)]
      have hbd := bg_bd (s := s) (Nat.zero_le _)
      obtain ⟨r, e, c⟩ := tokG_chain s _ _ [] hbd.2 (fun g => bg_nb (Nat.zero_le _) g) h
      rw [show (tokG s (s.size + 1) (bg s 0) []).1 = r from e]
      exact c _ (by omega)
theorem stL_le (s : ByteArray) : ∀ (b pos : Nat), stL s (crs s b pos) ≤ s.size
  | 0, pos => by simp [crs, stL]
  | b + 1, pos => by
    by_cases hp : pos < s.size
    · rw [show crs s (b + 1) pos = (pos, (Utf8.decode s pos).1) :: crs s b (pos + (Utf8.decode s pos).2) by simp [crs, hp]]
      unfold stL
      split
      · exact Nat.le_of_lt hp
      · exact stL_le s b _
    · rw [crs_end hp]
      exact Nat.le_refl _
theorem strG_le (a n : Nat) (S : ByteArray) (hS : a + 1 + S.size ≤ n) : ∀ (b pos : Nat) (e : Bool) (out : List Nat), (strG a n (crs S b pos) e out).2.1 ≤ n
  | 0, pos, true, out => by simp only [crs, strG]; omega
  | 0, pos, false, out => by simp only [crs, strG]; omega
  | b + 1, pos, e, out => by
    by_cases hp : pos < S.size
    · rw [show crs S (b + 1) pos = (pos, (Utf8.decode S pos).1) :: crs S b (pos + (Utf8.decode S pos).2) by simp [crs, hp]]
      cases e with
      | true =>
        simp only [strG]
        cases une (Utf8.decode S pos).1 with
        | none => show a + pos ≤ n; omega
        | some m => exact strG_le a n S hS b _ _ _
      | false =>
        simp only [strG]
        split
        · exact strG_le a n S hS b _ _ _
        · split
          · split
            · show a ≤ n; omega
            · show a + pos + 2 ≤ n; omega
          · exact strG_le a n S hS b _ _ _
    · rw [crs_end hp]
      cases e <;> simp only [strG] <;> omega
theorem red_le {s : ByteArray} {a : Nat} (ha : a < s.size) : (redR s a).2.1 ≤ s.size := by
  unfold redR
  split
  · exact strG_le a s.size _ (by rw [ByteArray.size_extract]; omega) _ _ _ _
  · have hf := fnd_le (fun c => blk c) s (Nat.le_of_lt ha)
    unfold wrdR
    dsimp only
    split
    · exact hf.2
    · split
      · exact Nat.le_of_lt ha
      · split
        · exact Nat.le_of_lt ha
        · exact hf.2
theorem tokG_le (s : ByteArray) : ∀ (f a : Nat) (acc : List Tok), (tokG s f a acc).2.2 ≠ 0 → (tokG s f a acc).1 = [] ∧ (tokG s f a acc).2.1 ≤ s.size
  | 0, a, acc => fun h => absurd rfl h
  | f + 1, a, acc => by
    unfold tokG
    split
    · split
      · split
        · intro _; exact ⟨rfl, by show a ≤ s.size; omega⟩
        · exact tokG_le s f _ _
      · intro _; exact ⟨rfl, red_le (by assumption)⟩
    · intro h; exact absurd rfl h
theorem tokR_le {s : ByteArray} (h : (tokR s).2.2 ≠ 0) : (tokR s).1 = [] ∧ (tokR s).2.1 ≤ s.size := by
  unfold tokR at h ⊢
  split
  · exact ⟨rfl, Nat.zero_le _⟩
  · rw [if_neg (by assumption)] at h
    split
    · exact ⟨rfl, by show stR s ≤ s.size; omega⟩
    · rw [if_neg (by assumption)] at h
      exact tokG_le s _ _ _ h
/-- A token's cells among all. -/
theorem tkCs_get : ∀ (l : List Tok) (i : Nat) (t : Tok), l[i]? = some t → (tkCs l)[i * 4]? = some (.int .i64 t.k) ∧ (tkCs l)[i * 4 + 1]? = some (.string t.t) ∧ (tkCs l)[i * 4 + 2]? = some (.int .i64 t.n) ∧ (tkCs l)[i * 4 + 3]? = some (.int .i64 t.a)
  | [], i, t, h => by simp at h
  | x :: l, 0, t, h => by
    simp only [List.getElem?_cons_zero, Option.some.injEq] at h
    subst h
    simp [tkCs]
  | x :: l, i + 1, t, h => by
    have := tkCs_get l i t (by simpa using h)
    have e : ∀ k, (tkCs (x :: l))[k + 4]? = (tkCs l)[k]? := fun k => by simp [tkCs]
    rw [show (i + 1) * 4 = i * 4 + 4 by omega, show i * 4 + 4 + 1 = i * 4 + 1 + 4 by omega, show i * 4 + 4 + 2 = i * 4 + 2 + 4 by omega, show i * 4 + 4 + 3 = i * 4 + 3 + 4 by omega, e, e, e, e]
    exact this
end Go.Proofs.YtapehdolnljnoaaGreatDoor
namespace Go.Proofs.YtapehdolnljnoaaGreatDoor
open Go.RowKit
set_option linter.unusedSimpArgs false
set_option linter.unusedVariables false
theorem Only.drewN {bs : Nat → Prop} {a w : World} (h : Only bs a w) (n : Nat) : Only bs a (w.drewN n) := ⟨h.os, h.tape, h.output, h.size, h.block⟩
section
variable {P : Program} {n l : Nat} {ops : Array Oper} {op : Oper} {a : Act} {w w' : World} {K : Act → World → Prop} {Q : Exit → Act → World → Prop}
theorem wp_call_func {f : Nat} (args : Array Operand) (tys : Array TypeId) (ho : op.op = .call { callee := .value (.func f), args := args, argTypes := tys }) (vs : Array Value) (hvs : args.map a.eval = vs) (he : ∀ args w, (callFunc f args).run P w = .ok (.enter f args) w)
    {R : Ending → World → Prop} (hc : Calls P f vs w R) (hR : ∀ e w', R e w' → ∃ v, e = .returned v ∧ K (a.put op.dst v) w') : op.wp P a w K Q := by
  have hr : (execOp a.eval op).run P w = .ok (.enter f vs) w := by
    simp [execOp, ho, resolve, invoke, go_sem, he, hvs, Result.andThen]
  unfold Oper.wp
  rw [hr, Oper.upon_enter]
  refine hc.mono fun e w' h => ?_
  obtain ⟨v, rfl, hk⟩ := hR e w' h
  exact hk
end
end Go.Proofs.YtapehdolnljnoaaGreatDoor
namespace Go.Proofs.YtapehdolnljnoaaGreatDoor
open Go.RowKit Go.Lib
set_option linter.unusedSimpArgs false
set_option linter.unusedVariables false
set_option maxRecDepth 100000 in
set_option maxHeartbeats 1000000 in
theorem rblank_any (c : Nat) (w : World) : Calls Tryz.prog 56 #[.int .i32 (c : Int)] w fun e w' => e = .returned (.bool (blk c)) ∧ w' = w := by
  by_cases h9 : c = 9
  · subst h9
    rw [show blk 9 = true from rfl]
    go_enter Tryz.func56, Tryz.ntmps56
    go_wp2
    go_ret
    exact ⟨rfl, rfl⟩
  · have i9 : ¬ (c : Int) = 9 := by omega
    by_cases h10 : c = 10
    · subst h10
      rw [show blk 10 = true from rfl]
      go_enter Tryz.func56, Tryz.ntmps56
      go_wp2
      go_ret
      exact ⟨rfl, rfl⟩
    · have i10 : ¬ (c : Int) = 10 := by omega
      by_cases h13 : c = 13
      · subst h13
        rw [show blk 13 = true from rfl]
        go_enter Tryz.func56, Tryz.ntmps56
        go_wp2
        go_ret
        exact ⟨rfl, rfl⟩
      · have i13 : ¬ (c : Int) = 13 := by omega
        by_cases h32 : c = 32
        · subst h32
          rw [show blk 32 = true from rfl]
          go_enter Tryz.func56, Tryz.ntmps56
          go_wp2
          go_ret
          exact ⟨rfl, rfl⟩
        · have i32 : ¬ (c : Int) = 32 := by omega
          by_cases h160 : c = 160
          · subst h160
            rw [show blk 160 = true from rfl]
            go_enter Tryz.func56, Tryz.ntmps56
            go_wp2
            go_ret
            exact ⟨rfl, rfl⟩
          · have i160 : ¬ (c : Int) = 160 := by omega
            by_cases h12288 : c = 12288
            · subst h12288
              rw [show blk 12288 = true from rfl]
              go_enter Tryz.func56, Tryz.ntmps56
              go_wp2
              go_ret
              exact ⟨rfl, rfl⟩
            · have i12288 : ¬ (c : Int) = 12288 := by omega
              have e : blk c = false := by simp [blk, *]
              have e1 : ((c : Int) == 9 || (c : Int) == 10 || (c : Int) == 13 || (c : Int) == 32 || (c : Int) == 160 || (c : Int) == 12288) = false := by simp [i9, i10, i13, i32, i160, i12288]
              rw [e]
              go_enter Tryz.func56, Tryz.ntmps56
              go_wp2
              go_ret
              exact ⟨rfl, rfl⟩
theorem addr_add (g k : Nat) : (⟨g, 0, none⟩ : Addr).add k = ⟨g, k, none⟩ := by
  unfold Addr.add
  split
  · simp_all
  · simp
theorem owns_lower {w : World} {B C : Nat} {e : TypeId} {sz : Nat} {v : Value} {n : Nat} {xs : List Value} (h : w.ownsRowF B e sz v n xs) (hC : C ≤ B) : w.ownsRowF C e sz v n xs := by
  refine ⟨h.1, ?_⟩
  rcases h.2 with g | ⟨g, cap, cur, fz, h1, h2, h3⟩
  · exact .inl g
  · exact .inr ⟨g, cap, cur, fz, h1, by omega, h3⟩
/-- The cells of a row's token. -/
theorem toks_cells {w : World} {B : Nat} {v : Value} {l : List Tok} (h : ToksAt w B v l) {i : Nat} {t : Tok} (ht : l[i]? = some t) :
    ∃ g cap, v = .slice (some ⟨g, 0, none⟩) l.length cap ∧ B ≤ g ∧ g < w.heap.size ∧ w.cell? ⟨g, i * 4, none⟩ = some (.int .i64 t.k) ∧ w.cell? ⟨g, i * 4 + 1, none⟩ = some (.string t.t) ∧ w.cell? ⟨g, i * 4 + 2, none⟩ = some (.int .i64 t.n) ∧ w.cell? ⟨g, i * 4 + 3, none⟩ = some (.int .i64 t.a) := by
  obtain ⟨c0, c1, c2, c3⟩ := tkCs_get l i t ht
  have hi : i < l.length := (List.getElem?_eq_some_iff.1 ht).1
  rcases h.2.2 with ⟨_, h0⟩ | ⟨g, cap, cur, fz, hv, hB, hg, _⟩
  · omega
  · subst hv
    exact ⟨g, cap, rfl, hB, (Array.getElem?_eq_some_iff.1 hg).1, (by have := h.2.cells (g := g) rfl _ _ c0; rwa [addr_add] at this), (by have := h.2.cells (g := g) rfl _ _ c1; rwa [addr_add] at this), (by have := h.2.cells (g := g) rfl _ _ c2; rwa [addr_add] at this), (by have := h.2.cells (g := g) rfl _ _ c3; rwa [addr_add] at this)⟩
theorem toks_only {w w' : World} {B : Nat} {v : Value} {l : List Tok} (h : ToksAt w B v l) (o : Only (fun _ => False) w w') : ToksAt w' B v l := ⟨h.1, owns_only h.2 o⟩
theorem tokG_len (s : ByteArray) : ∀ (f a : Nat) (acc : List Tok), acc.length ≤ 4096 → (tokG s f a acc).1.length ≤ 4096
  | 0, a, acc, h => h
  | f + 1, a, acc, h => by
    unfold tokG
    split
    · split
      · split
        · exact Nat.zero_le _
        · exact tokG_len s f _ _ (by rw [List.length_append]; show acc.length + 1 ≤ 4096; omega)
      · exact Nat.zero_le _
    · exact h
theorem tokR_len (s : ByteArray) : (tokR s).1.length ≤ 4096 := by
  unfold tokR
  split
  · exact Nat.zero_le _
  · split
    · exact Nat.zero_le _
    · exact tokG_len s _ _ _ (Nat.zero_le _)
theorem tokR_size {s : ByteArray} (h : (tokR s).2.2 = 0) : s.size ≤ 65536 := by
  unfold tokR at h
  split at h
  · exact absurd h (by simp)
  · omega
theorem wrap_id {x : Int} (h0 : -9223372036854775808 ≤ x) (h1 : x ≤ 9223372036854775807) : IntKind.i64.wrap x = x := by
  rw [IntKind.wrap_i64]
  omega
theorem Chain.head {s : ByteArray} {last : Int} {l : List Tok} {i : Nat} {t : Tok} (h : Chain s last (l.drop i)) (ht : l[i]? = some t) : ∃ a : Nat, last < (a : Int) ∧ a < s.size ∧ TkOk s a t ∧ Chain s (a : Int) (l.drop (i + 1)) := by
  have hi := (List.getElem?_eq_some_iff.1 ht).1
  have : l.drop i = t :: l.drop (i + 1) := by
    rw [← (List.getElem?_eq_some_iff.1 ht).2]
    exact List.drop_eq_getElem_cons hi
  rw [this] at h
  exact h
end Go.Proofs.YtapehdolnljnoaaGreatDoor
namespace Go.Proofs.YtapehdolnljnoaaGreatDoor
open Go.RowKit Go.Lib
set_option linter.unusedSimpArgs false
set_option linter.unusedVariables false
def wr (c : Nat) : Nat := (encodeRune (c : Int)).length
def wl (l : List Nat) : Nat := (enL l).length
def VL (l : List Nat) : Prop := ∀ c ∈ l, Vr c
theorem wl_nil : wl [] = 0 := rfl
theorem wl_cons (c : Nat) (l : List Nat) : wl (c :: l) = wr c + wl l := by simp [wl, wr, enL]
theorem wl_app (a b : List Nat) : wl (a ++ b) = wl a + wl b := by simp [wl, enL]
theorem wr_pos (c : Nat) : 1 ≤ wr c := by
  have := (runeCells_le (c : Int)).1
  rw [runeCells_length] at this
  exact this
theorem tx_size (l : List Nat) : (tx l).size = wl l := by simp [tx, wl, ByteArray.size]
theorem tx_data (l : List Nat) : (tx l).data.toList = enL l := by simp [tx]
theorem tx_inj {s : ByteArray} {l : List Nat} (h : s.data.toList = enL l) : s = tx l := by
  apply ByteArray.ext
  apply Array.toList_inj.1
  rw [tx_data, h]
theorem byte_of {n : Nat} (h : n < 256) : n.toUInt8.toNat = n := by
  show (UInt8.ofNat n).toNat = n
  rw [UInt8.toNat_ofNat']
  omega
theorem enc1 {c : Nat} (h : c ≤ 127) : encodeRune (c : Int) = [c.toUInt8] := by
  unfold encodeRune
  rw [encodeRuneZ_one (by omega) (by omega)]
  simp
theorem enc2 {c : Nat} (h0 : 128 ≤ c) (h1 : c ≤ 2047) : encodeRune (c : Int) = [(192 + c / 64).toUInt8, (128 + c % 64).toUInt8] := by
  unfold encodeRune
  rw [encodeRuneZ_two (by omega) (by omega)]
  simp only [List.map_cons, List.map_nil]
  congr 2 <;> omega
theorem enc3 {c : Nat} (h : (2048 ≤ c ∧ c < 55296) ∨ (57343 < c ∧ c ≤ 65535)) : encodeRune (c : Int) = [(224 + c / 4096).toUInt8, (128 + c / 64 % 64).toUInt8, (128 + c % 64).toUInt8] := by
  unfold encodeRune
  rw [encodeRuneZ_three (by omega)]
  simp only [List.map_cons, List.map_nil]
  congr 2
theorem enc4 {c : Nat} (h0 : 65536 ≤ c) (h1 : c ≤ 1114111) : encodeRune (c : Int) = [(240 + c / 262144).toUInt8, (128 + c / 4096 % 64).toUInt8, (128 + c / 64 % 64).toUInt8, (128 + c % 64).toUInt8] := by
  unfold encodeRune
  rw [encodeRuneZ_four (by omega) (by omega)]
  simp only [List.map_cons, List.map_nil]
  congr 2
set_option maxRecDepth 10000 in
/-- What was encoded is decoded. -/
theorem decodeL_enc {c : Nat} (hc : Vr c) (t : List UInt8) : decodeL (encodeRune (c : Int) ++ t) = (c, wr c) := by
  unfold wr
  rw [decodeL_N]
  unfold Vr at hc
  by_cases h1 : c ≤ 127
  · rw [enc1 h1]
    simp only [List.cons_append, List.nil_append, List.getD_cons_zero, List.length_cons, List.length_nil]
    rw [byte_of (by omega)]
    unfold decodeN
    rw [if_pos (by omega)]
  · by_cases h2 : c ≤ 2047
    · rw [enc2 (by omega) h2]
      simp only [List.cons_append, List.nil_append, List.getD_cons_zero, List.getD_cons_succ, List.length_cons, List.length_nil]
      rw [byte_of (by omega), byte_of (by omega)]
      unfold decodeN
      rw [if_neg (by omega), if_pos ⟨by omega, by omega, by omega⟩, if_pos (by omega)]
      congr 1
      omega
    · by_cases h3 : c ≤ 65535
      · rw [enc3 (by omega)]
        simp only [List.cons_append, List.nil_append, List.getD_cons_zero, List.getD_cons_succ, List.length_cons, List.length_nil]
        rw [byte_of (by omega), byte_of (by omega), byte_of (by omega)]
        unfold decodeN
        have e : (224 + c / 4096) % 16 * 4096 + (128 + c / 64 % 64) % 64 * 64 + (128 + c % 64) % 64 = c := by omega
        rw [if_neg (by omega), if_neg (by omega), if_pos ⟨by omega, ⟨by omega, by omega⟩, by omega, by omega⟩, e, if_pos ⟨by omega, by omega⟩]
      · rw [enc4 (by omega) (by omega)]
        simp only [List.cons_append, List.nil_append, List.getD_cons_zero, List.getD_cons_succ, List.length_cons, List.length_nil]
        rw [byte_of (by omega), byte_of (by omega), byte_of (by omega), byte_of (by omega)]
        unfold decodeN
        have e : (240 + c / 262144) % 8 * 262144 + (128 + c / 4096 % 64) % 64 * 4096 + (128 + c / 64 % 64) % 64 * 64 + (128 + c % 64) % 64 = c := by omega
        rw [if_neg (by omega), if_neg (by omega), if_neg (by omega), if_pos ⟨by omega, ⟨by omega, by omega⟩, ⟨by omega, by omega⟩, by omega, by omega⟩, e, if_pos ⟨by omega, by omega⟩]
theorem decode_tx (p : List Nat) {c : Nat} (hc : Vr c) (q : List Nat) : Utf8.decode (tx (p ++ c :: q)) (wl p) = (c, wr c) := by
  rw [← decodeL_drop, tx_data, enL_app]
  unfold wl
  rw [List.drop_left, show c :: q = [c] ++ q from rfl, enL_app, show enL [c] = encodeRune (c : Int) by simp [enL]]
  exact decodeL_enc hc _
/-- Characters with their places. -/
def pl : Nat → List Nat → List (Nat × Nat)
  | _, [] => []
  | o, c :: r => (o, c) :: pl (o + wr c) r
theorem crs_tx : ∀ (q p : List Nat) (b : Nat), VL q → wl q ≤ b → crs (tx (p ++ q)) b (wl p) = pl (wl p) q
  | [], p, b, _, _ => by
    rw [crs_end (by rw [tx_size, List.append_nil]; exact Nat.lt_irrefl _)]
    rfl
  | c :: q, p, b, h, hb => by
    have hc := h c (List.mem_cons_self ..)
    have hw := wr_pos c
    rw [wl_cons] at hb
    have hp : wl p < (tx (p ++ c :: q)).size := by rw [tx_size, wl_app, wl_cons]; omega
    obtain ⟨b', rfl, e⟩ := crs_go (b := b) hp (by rw [tx_size, wl_app, wl_cons]; omega)
    rw [e, decode_tx p hc q]
    have := crs_tx q (p ++ [c]) b' (fun x hx => h x (List.mem_cons_of_mem _ hx)) (by omega)
    rw [wl_app, wl_cons, wl_nil, Nat.add_zero, List.append_assoc] at this
    rw [show p ++ c :: q = p ++ ([c] ++ q) from rfl, this]
    rfl
theorem crs_tx0 {q : List Nat} (h : VL q) : crs (tx q) (tx q).size 0 = pl 0 q := by
  have := crs_tx q [] (tx q).size h (by rw [tx_size]; exact Nat.le_refl _)
  exact this
theorem pl_runes : ∀ (o : Nat) (q : List Nat), (pl o q).map (·.2) = q
  | _, [] => rfl
  | o, c :: q => by rw [pl, List.map_cons, pl_runes]
theorem rns_tx {q : List Nat} (h : VL q) : rns (tx q) = q := by
  unfold rns chs
  rw [crs_tx0 h, pl_runes]
/-- A text that has the characters q from the place a on. -/
def Sfx (s : ByteArray) (q : List Nat) (a : Nat) : Prop := ∃ p, s = tx (p ++ q) ∧ a = wl p ∧ VL q
theorem sfx_all {q : List Nat} (h : VL q) : Sfx (tx q) q 0 := ⟨[], rfl, rfl, h⟩
theorem Sfx.size {s : ByteArray} {q : List Nat} {a : Nat} (h : Sfx s q a) : s.size = a + wl q := by
  obtain ⟨p, rfl, rfl, _⟩ := h
  rw [tx_size, wl_app]
theorem Sfx.drop {s : ByteArray} {m q : List Nat} {a : Nat} (h : Sfx s (m ++ q) a) : Sfx s q (a + wl m) := by
  obtain ⟨p, rfl, rfl, hv⟩ := h
  exact ⟨p ++ m, by rw [List.append_assoc], by rw [wl_app], fun c hc => hv c (List.mem_append_right _ hc)⟩
theorem Sfx.vl {s : ByteArray} {q : List Nat} {a : Nat} (h : Sfx s q a) : VL q := by obtain ⟨p, _, _, hv⟩ := h; exact hv
theorem Sfx.extract {s : ByteArray} {m q : List Nat} {a : Nat} (h : Sfx s (m ++ q) a) : s.extract a (a + wl m) = tx m := by
  obtain ⟨p, rfl, rfl, hv⟩ := h
  apply tx_inj
  rw [ByteArray.data_extract, Array.toList_extract, tx_data, enL_app, enL_app]
  simp [wl, List.extract, List.take_append, List.drop_append]
theorem Sfx.rest {s : ByteArray} {q : List Nat} {a : Nat} (h : Sfx s q a) : s.extract a s.size = tx q := by
  have : Sfx s (q ++ []) a := by rw [List.append_nil]; exact h
  rw [h.size]
  exact this.extract
theorem fndL_pl (P : Nat → Bool) (a n : Nat) : ∀ (q : List Nat) (o : Nat), n = a + o + wl q → fndL P a n (pl o q) = a + o + wl (q.takeWhile (fun c => !P c))
  | [], o, h => by rw [pl, fndL, List.takeWhile_nil]; exact h
  | c :: q, o, h => by
    rw [pl, fndL, List.takeWhile_cons]
    rw [wl_cons] at h
    by_cases hp : P c = true
    · rw [if_pos hp]
      simp [hp, wl_nil]
    · rw [if_neg hp, fndL_pl P a n q (o + wr c) (by omega)]
      simp only [Bool.not_eq_true] at hp
      simp only [hp, Bool.not_false, if_true]
      rw [wl_cons]
      omega
theorem fnd_sfx (P : Nat → Bool) {s : ByteArray} {q : List Nat} {a : Nat} (h : Sfx s q a) : fnd P s a = a + wl (q.takeWhile (fun c => !P c)) := by
  unfold fnd
  rw [h.rest, crs_tx0 h.vl]
  have := fndL_pl P a s.size q 0 (by rw [h.size]; omega)
  rw [Nat.add_zero] at this
  exact this
theorem split_while (P : Nat → Bool) (q : List Nat) : q = q.takeWhile P ++ q.dropWhile P := (List.takeWhile_append_dropWhile ..).symm
theorem fnd_drop (P : Nat → Bool) {s : ByteArray} {q : List Nat} {a : Nat} (h : Sfx s q a) : Sfx s (q.dropWhile (fun c => !P c)) (fnd P s a) := by
  rw [fnd_sfx P h]
  have : Sfx s (q.takeWhile (fun c => !P c) ++ q.dropWhile (fun c => !P c)) a := by rw [← split_while]; exact h
  exact this.drop
theorem tx_app (a b : List Nat) : tx a ++ tx b = tx (a ++ b) := by
  apply tx_inj
  rw [ByteArray.data_append, Array.toList_append, tx_data, tx_data, enL_app]
theorem wl_len : ∀ l : List Nat, l.length ≤ wl l
  | [] => Nat.le_refl _
  | c :: l => by
    have := wl_len l
    have := wr_pos c
    rw [wl_cons, List.length_cons]
    omega
theorem Sfx.pos {s : ByteArray} {q : List Nat} {a b : Nat} (h : Sfx s q a) (g : Sfx s q b) : a = b := by
  have := h.size
  have := g.size
  omega
theorem Sfx.decode {s : ByteArray} {c : Nat} {q : List Nat} {a : Nat} (h : Sfx s (c :: q) a) : Utf8.decode s a = (c, wr c) := by
  obtain ⟨p, rfl, rfl, hv⟩ := h
  exact decode_tx p (hv c (List.mem_cons_self ..)) q
theorem Sfx.tail {s : ByteArray} {c : Nat} {q : List Nat} {a : Nat} (h : Sfx s (c :: q) a) : Sfx s q (a + wr c) := by
  have : Sfx s ([c] ++ q) a := h
  have := this.drop
  rwa [wl_cons, wl_nil, Nat.add_zero] at this
theorem pre_one {c : Nat} {q : List Nat} (hv : VL (c :: q)) : preB (tx (c :: q)) exB = decide (c = 33) := by
  by_cases h : c = 33
  · subst h
    rw [decide_eq_true rfl]
    have e : (tx (33 :: q)).extract 0 1 = tx [33] := by
      have : Sfx (tx (33 :: q)) ([33] ++ q) 0 := sfx_all hv
      have := this.extract
      rwa [show 0 + wl [33] = 1 from rfl] at this
    unfold preB
    have e2 : exB.size = 1 := rfl
    rw [e2, e]
    have hz : 1 ≤ (tx (33 :: q)).size := by rw [tx_size, wl_cons]; have := wr_pos 33; omega
    rw [decide_eq_true hz, show tx [33] = exB from rfl]
    simp
  · rw [decide_eq_false h, Bool.eq_false_iff]
    intro g
    obtain ⟨hs, hb⟩ := pre_get (b := 33) rfl g
    have hd := decode_ascii (tx (c :: q)) 0 hs (by rw [hb]; decide)
    rw [hb] at hd
    have hd2 := (sfx_all hv).decode
    rw [hd] at hd2
    injection hd2 with e1
    exact h e1.symm
theorem pre_none : preB (tx []) exB = false := by
  unfold preB
  rw [decide_eq_false (by decide)]
  rfl
/-- A remark begins. -/
def rmL (q : List Nat) : Bool := decide (q.head? = some 33) && (q.tail.takeWhile (fun c => !blk c)).isEmpty
theorem rmk_sfx {s : ByteArray} {q : List Nat} {a : Nat} (h : Sfx s q a) : rmk s a = rmL q := by
  unfold rmk rmL
  rw [h.rest, fnd_sfx _ h]
  cases q with
  | nil => rw [pre_none]; rfl
  | cons c q =>
    rw [pre_one h.vl]
    by_cases hc : c = 33
    · subst hc
      have e : (33 :: q).takeWhile (fun c => !blk c) = 33 :: q.takeWhile (fun c => !blk c) := by rw [List.takeWhile_cons]; rfl
      rw [e, wl_cons, show wr 33 = 1 from rfl]
      simp only [List.head?_cons, List.tail_cons, decide_true, Bool.true_and]
      cases hq : q.takeWhile (fun c => !blk c) with
      | nil => simp [wl_nil]
      | cons d r =>
        rw [wl_cons]
        have := wr_pos d
        simp
        omega
    · simp [hc]
/-- What is left where the next token begins. -/
def skp : Nat → List Nat → List Nat
  | 0, q => q
  | f + 1, q => if rmL (q.dropWhile blk) = true then skp f ((q.dropWhile blk).dropWhile (fun c => !decide (c = 10))) else q.dropWhile blk
theorem bgn_sfx {s : ByteArray} : ∀ (f : Nat) {q : List Nat} {a : Nat}, Sfx s q a → Sfx s (skp f q) (bgn s f a) := by
  intro f
  induction f with
  | zero => intro q a h; exact h
  | succ f ih =>
    intro q a h
    have h1 := fnd_drop (fun c => !blk c) h
    simp only [Bool.not_not] at h1
    have h2 := rmk_sfx h1
    unfold bgn skp
    rw [h2]
    by_cases hr : rmL (q.dropWhile blk) = true
    · rw [if_pos hr, if_pos hr]
      exact ih (fnd_drop (fun c => decide (c = 10)) h1)
    · rw [if_neg hr, if_neg hr]
      exact h1
theorem dw_len (P : Nat → Bool) (q : List Nat) : (q.dropWhile P).length ≤ q.length := (List.dropWhile_sublist P).length_le
theorem rm_drop {q : List Nat} (h : rmL q = true) : (q.dropWhile (fun c => !decide (c = 10))).length < q.length := by
  cases q with
  | nil => simp [rmL] at h
  | cons c q =>
    unfold rmL at h
    simp only [List.head?_cons, Bool.and_eq_true, decide_eq_true_eq, Option.some.injEq] at h
    obtain ⟨rfl, _⟩ := h
    rw [List.dropWhile_cons]
    have := dw_len (fun c => !decide (c = 10)) q
    simp only [show (!decide (33 = 10)) = true from rfl, if_true, List.length_cons]
    omega
theorem skp_fuel : ∀ (f g : Nat) (q : List Nat), q.length < f → q.length < g → skp f q = skp g q := by
  intro f
  induction f with
  | zero => intro g q h _; omega
  | succ f ih =>
    intro g q hf hg
    obtain ⟨g, rfl⟩ : ∃ k, g = k + 1 := ⟨g - 1, by omega⟩
    unfold skp
    by_cases hr : rmL (q.dropWhile blk) = true
    · rw [if_pos hr, if_pos hr]
      have h1 := rm_drop hr
      have h2 := dw_len blk q
      exact ih g _ (by omega) (by omega)
    · rw [if_neg hr, if_neg hr]
def SK (q : List Nat) : List Nat := skp (q.length + 1) q
theorem SK_eq (q : List Nat) : SK q = if rmL (q.dropWhile blk) = true then SK ((q.dropWhile blk).dropWhile (fun c => !decide (c = 10))) else q.dropWhile blk := by
  conv => lhs; unfold SK; unfold skp
  by_cases hr : rmL (q.dropWhile blk) = true
  · rw [if_pos hr, if_pos hr]
    have h1 := rm_drop hr
    have h2 := dw_len blk q
    exact skp_fuel _ _ _ (by omega) (by omega)
  · rw [if_neg hr, if_neg hr]
theorem bg_sfx {s : ByteArray} {q : List Nat} {a : Nat} (h : Sfx s q a) : Sfx s (SK q) (bg s a) := by
  have := bgn_sfx (s.size + 1) h
  rw [skp_fuel (s.size + 1) (q.length + 1) q (by have := h.size; have := wl_len q; omega) (by omega)] at this
  exact this
theorem SK_len (q : List Nat) : (SK q).length ≤ q.length := by
  have : ∀ (f : Nat) (q : List Nat), (skp f q).length ≤ q.length := by
    intro f
    induction f with
    | zero => intro q; exact Nat.le_refl _
    | succ f ih =>
      intro q
      unfold skp
      have h2 := dw_len blk q
      split
      · have h3 := dw_len (fun c => !decide (c = 10)) (q.dropWhile blk)
        have := ih ((q.dropWhile blk).dropWhile (fun c => !decide (c = 10)))
        omega
      · exact h2
  exact this _ q
theorem SK_nil : SK [] = [] := rfl
/-- Blanks ahead make no difference. -/
theorem SK_blank (q y : List Nat) (h : q.dropWhile blk = []) : SK (q ++ y) = SK y := by
  rw [SK_eq (q ++ y), SK_eq y, List.dropWhile_append, h]
  rfl
theorem SK_ten (x : List Nat) : SK (10 :: x) = SK x := SK_blank [10] x rfl
/-- A text behind a line's end, or none. -/
def Ynl (y : List Nat) : Prop := y = [] ∨ ∃ x, y = 10 :: x
theorem tw_nl (P : Nat → Bool) (hP : P 10 = false) (q : List Nat) {y : List Nat} (hy : Ynl y) : (q ++ y).takeWhile P = q.takeWhile P := by
  rcases hy with rfl | ⟨x, rfl⟩
  · rw [List.append_nil]
  · induction q with
    | nil => simp [List.takeWhile_cons, hP]
    | cons c q ih =>
      rw [List.cons_append, List.takeWhile_cons, List.takeWhile_cons, ih]
theorem rmL_nl {q y : List Nat} (hy : Ynl y) (hq : q ≠ []) : rmL (q ++ y) = rmL q := by
  cases q with
  | nil => exact absurd rfl hq
  | cons c q =>
    unfold rmL
    rw [List.cons_append, List.head?_cons, List.head?_cons, List.tail_cons, List.tail_cons, tw_nl _ rfl q hy]
theorem SK_ext (y : List Nat) (hy : Ynl y) : ∀ (n : Nat) (q : List Nat), q.length ≤ n → SK (q ++ y) = if SK q = [] then SK y else SK q ++ y := by
  intro n
  induction n with
  | zero =>
    intro q hq
    obtain rfl : q = [] := List.eq_nil_of_length_eq_zero (by omega)
    rw [SK_nil, if_pos rfl]
    rfl
  | succ n ih =>
    intro q hq
    by_cases hr : q.dropWhile blk = []
    · have e : SK q = [] := by rw [SK_eq, hr]; rfl
      rw [if_pos e, SK_blank q y hr]
    · have ed : (q ++ y).dropWhile blk = q.dropWhile blk ++ y := by
        rw [List.dropWhile_append, if_neg (by simpa using hr)]
      rw [SK_eq (q ++ y), SK_eq q, ed, rmL_nl hy hr]
      by_cases hm : rmL (q.dropWhile blk) = true
      · rw [if_pos hm, if_pos hm]
        have h1 := rm_drop hm
        have h2 := dw_len blk q
        by_cases h3 : (q.dropWhile blk).dropWhile (fun c => !decide (c = 10)) = []
        · rw [List.dropWhile_append, h3, SK_nil, if_pos rfl]
          rcases hy with rfl | ⟨x, rfl⟩
          · rfl
          · rw [if_pos (by rfl), List.dropWhile_cons, if_neg (by decide)]
        · rw [List.dropWhile_append, if_neg (by simpa using h3)]
          exact ih _ (by omega)
      · rw [if_neg hm, if_neg hm, if_neg hr]
theorem pre_take {X p : ByteArray} (h : preB X p = true) : X.data.toList.take p.size = p.data.toList := by
  unfold preB at h
  simp only [Bool.and_eq_true, decide_eq_true_eq, beq_iff_eq] at h
  have := h.2
  rw [ByteArray.toList_eq, ByteArray.toList_eq, ByteArray.data_extract, Array.toList_extract] at this
  simpa using this
/-- A text without a byte that belongs to no character is a row of characters. -/
theorem valid_from (s : ByteArray) : ∀ (b pos : Nat), pos ≤ s.size → s.size ≤ pos + b → stL s (crs s b pos) = s.size → ∃ l, VL l ∧ s.data.toList.drop pos = enL l := by
  intro b
  induction b with
  | zero =>
    intro pos h1 h2 _
    refine ⟨[], fun c hc => by simp at hc, ?_⟩
    rw [List.drop_eq_nil_of_le (by rw [Array.length_toList]; exact h2)]
    rfl
  | succ b ih =>
    intro pos h1 h2 h3
    by_cases hp : pos < s.size
    · have hw := wid_pos s pos hp
      have hwp := decode_wd s pos hp
      rw [show crs s (b + 1) pos = (pos, (Utf8.decode s pos).1) :: crs s b (pos + (Utf8.decode s pos).2) by simp [crs, hp]] at h3
      unfold stL at h3
      have hne : s.data.toList.drop pos ≠ [] := by
        intro g
        have := congrArg List.length g
        rw [List.length_drop, Array.length_toList] at this
        have : s.data.size - pos = 0 := this
        have : s.data.size = s.size := rfl
        omega
      have hdl := decodeL_drop s pos
      by_cases hbad : (Utf8.decode s pos).1 = 65533 ∧ preB (s.extract pos s.size) rpB = false
      · rw [if_pos hbad] at h3
        omega
      · rw [if_neg hbad] at h3
        obtain ⟨l, hl, e⟩ := ih (pos + (Utf8.decode s pos).2) hwp (by omega) h3
        have hv : ¬ ((decodeL (s.data.toList.drop pos)).1 = 65533 ∧ (decodeL (s.data.toList.drop pos)).2 = 1) := by
          rw [hdl]
          intro g
          have hpre : preB (s.extract pos s.size) rpB = true := by
            cases hx : preB (s.extract pos s.size) rpB with
            | true => rfl
            | false => exact absurd ⟨g.1, hx⟩ hbad
          have ht := pre_take hpre
          have hx : (s.extract pos s.size).data.toList = s.data.toList.drop pos := by
            rw [ByteArray.data_extract, Array.toList_extract]
            show List.extract _ _ _ = _
            rw [List.extract, List.take_of_length_le]
            rw [List.length_drop, Array.length_toList]
            exact Nat.le_refl _
          rw [hx] at ht
          have e3 : s.data.toList.drop pos = encodeRune ((65533 : Nat) : Int) ++ (s.data.toList.drop pos).drop 3 := by
            have : encodeRune ((65533 : Nat) : Int) = rpB.data.toList := rfl
            rw [this, ← ht]
            exact (List.take_append_drop 3 _).symm
          rw [e3, decodeL_enc (by unfold Vr; omega)] at hdl
          rw [← hdl] at g
          exact absurd g.2 (by decide)
        have he := encode_decode _ hne hv
        rw [hdl] at he
        refine ⟨(Utf8.decode s pos).1 :: l, ?_, ?_⟩
        · intro c hc
          rcases List.mem_cons.1 hc with rfl | hc
          · exact decode_vr s pos
          · exact hl c hc
        · rw [show enL ((Utf8.decode s pos).1 :: l) = encodeRune ((Utf8.decode s pos).1 : Int) ++ enL l by simp [enL], he, ← e, ← List.drop_drop, List.take_append_drop]
    · refine ⟨[], fun c hc => by simp at hc, ?_⟩
      rw [List.drop_eq_nil_of_le (by rw [Array.length_toList]; show s.size ≤ pos; omega)]
      rfl
theorem valid_tx {s : ByteArray} (h : ¬ stR s < s.size) : ∃ l, VL l ∧ s = tx l := by
  have h2 := stL_le s s.size 0
  unfold stR at h
  obtain ⟨l, hl, e⟩ := valid_from s s.size 0 (Nat.zero_le _) (by omega) (by omega)
  rw [List.drop_zero] at e
  exact ⟨l, hl, tx_inj e⟩
end Go.Proofs.YtapehdolnljnoaaGreatDoor
namespace Go.Proofs.YtapehdolnljnoaaGreatDoor
open Go.RowKit Go.Lib
set_option linter.unusedSimpArgs false
set_option linter.unusedVariables false
/-- A token d places on. -/
def shT (d : Nat) (t : Tok) : Tok := ⟨t.k, t.t, t.n, t.a + (d : Int)⟩
def shR (d : Nat) (r : Tok × Nat × Int) : Tok × Nat × Int := (shT d r.1, r.2.1 + d, r.2.2)
/-- A string that is read is read the same with more behind it, and further on. -/
theorem strG_ext (a n m d : Nat) (y : List Nat) : ∀ (q : List Nat) (o : Nat) (e : Bool) (out : List Nat), (strG a n (pl o q) e out).2.2 = 0 → strG (a + d) m (pl o (q ++ y)) e out = shR d (strG a n (pl o q) e out)
  | [], o, true, out => by intro h; simp [pl, strG] at h
  | [], o, false, out => by intro h; simp [pl, strG] at h
  | c :: q, o, true, out => by
    rw [List.cons_append, pl, pl]
    simp only [strG]
    cases une c with
    | none => intro h; simp at h
    | some k => exact strG_ext a n m d y q _ _ _
  | c :: q, o, false, out => by
    rw [List.cons_append, pl, pl]
    simp only [strG]
    split
    · exact strG_ext a n m d y q _ _ _
    · split
      · split
        · intro h; simp at h
        · intro _
          simp only [shR, shT]
          congr 2
          omega
      · exact strG_ext a n m d y q _ _ _
/-- Where the string's end is. -/
theorem strG_end (a n : Nat) : ∀ (q : List Nat) (o : Nat) (e : Bool) (out : List Nat), (strG a n (pl o q) e out).2.2 = 0 → ∃ k q', q = k ++ q' ∧ k ≠ [] ∧ (strG a n (pl o q) e out).2.1 = a + 1 + o + wl k
  | [], o, true, out => by intro h; simp [pl, strG] at h
  | [], o, false, out => by intro h; simp [pl, strG] at h
  | c :: q, o, true, out => by
    rw [pl]
    simp only [strG]
    cases une c with
    | none => intro h; simp at h
    | some k =>
      intro h
      obtain ⟨k, q', e1, _, e2⟩ := strG_end a n q _ _ _ h
      exact ⟨c :: k, q', by rw [e1]; rfl, by simp, by rw [wl_cons]; simp only at e2 ⊢; omega⟩
  | c :: q, o, false, out => by
    rw [pl]
    simp only [strG]
    split
    · intro h
      obtain ⟨k, q', e1, _, e2⟩ := strG_end a n q _ _ _ h
      exact ⟨c :: k, q', by rw [e1]; rfl, by simp, by rw [wl_cons]; omega⟩
    · split
      · split
        · intro h; simp at h
        · intro _
          have h34 : c = 34 := by assumption
          subst h34
          exact ⟨[34], q, rfl, by simp, by show a + o + 2 = a + 1 + o + wl [34]; rw [show wl [34] = 1 from rfl]; omega⟩
      · intro h
        obtain ⟨k, q', e1, _, e2⟩ := strG_end a n q _ _ _ h
        exact ⟨c :: k, q', by rw [e1]; rfl, by simp, by rw [wl_cons]; omega⟩
theorem str_sfx {s : ByteArray} {q : List Nat} {a : Nat} (h : Sfx s (34 :: q) a) : strR s a = strG a s.size (pl 0 q) false [] := by
  have h1 : Sfx s q (a + 1) := h.tail
  unfold strR
  rw [h1.rest, crs_tx0 h1.vl]
theorem quote_sfx {s : ByteArray} {c : Nat} {q : List Nat} {a : Nat} (h : Sfx s (c :: q) a) : (byN s a = 34) ↔ c = 34 := by
  have := h.size
  rw [wl_cons] at this
  have := wr_pos c
  rw [quote_byte (by omega), h.decode]
/-- What a word is, by its characters. -/
def wrdL (w : List Nat) (a z : Nat) : Tok × Nat × Int :=
  if (numR (tx w)).2 = 0 then (⟨2, ⟨#[]⟩, (numR (tx w)).1, a⟩, z, 0)
  else if (numR (tx w)).2 = 11 then (⟨0, ⟨#[]⟩, 0, 0⟩, a, 11)
  else if nmdB (tx w) = false then (⟨0, ⟨#[]⟩, 0, 0⟩, a, 10)
  else (⟨1, tx w, 0, a⟩, z, 0)
theorem wrd_sfx {s : ByteArray} {q : List Nat} {a : Nat} (h : Sfx s q a) : wrdR s a = wrdL (q.takeWhile (fun c => !blk c)) a (a + wl (q.takeWhile (fun c => !blk c))) := by
  have h2 : Sfx s (q.takeWhile (fun c => !blk c) ++ q.dropWhile (fun c => !blk c)) a := by rw [← split_while]; exact h
  unfold wrdR wrdL
  dsimp only
  rw [fnd_sfx _ h, h2.extract]
theorem wrdL_sh (w : List Nat) (a z d : Nat) (h : (wrdL w a z).2.2 = 0) : wrdL w (a + d) (z + d) = shR d (wrdL w a z) := by
  unfold wrdL at h ⊢
  split
  · simp only [shR, shT]
    congr 2
  · rw [if_neg (by assumption)] at h
    split
    · rw [if_pos (by assumption)] at h
      exact absurd h (by simp)
    · rw [if_neg (by assumption)] at h
      split
      · rw [if_pos (by assumption)] at h
        exact absurd h (by simp)
      · simp only [shR, shT]
        congr 2
theorem wrdL_z (w : List Nat) (a z : Nat) (h : (wrdL w a z).2.2 = 0) : (wrdL w a z).2.1 = z := by
  unfold wrdL at h ⊢
  split
  · rfl
  · rw [if_neg (by assumption)] at h
    split
    · rw [if_pos (by assumption)] at h
      exact absurd h (by simp)
    · rw [if_neg (by assumption)] at h
      split
      · rw [if_pos (by assumption)] at h
        exact absurd h (by simp)
      · rfl
/-- A token that is read is read the same with a line's end behind the text, and further on. -/
theorem red_same {s S : ByteArray} {q y : List Nat} {a d : Nat} (hq : q ≠ []) (hy : Ynl y) (h : Sfx s q a) (g : Sfx S (q ++ y) (a + d)) (hz : (redR s a).2.2 = 0) : redR S (a + d) = shR d (redR s a) := by
  cases q with
  | nil => exact absurd rfl hq
  | cons c q =>
    have k1 := quote_sfx h
    have k2 := quote_sfx (show Sfx S (c :: (q ++ y)) (a + d) from g)
    unfold redR at hz ⊢
    by_cases hc : c = 34
    · subst hc
      rw [if_pos (k1.2 rfl)] at hz ⊢
      rw [if_pos (k2.2 rfl)]
      rw [str_sfx h] at hz ⊢
      rw [str_sfx (show Sfx S (34 :: (q ++ y)) (a + d) from g)]
      exact strG_ext a _ _ d y q 0 false [] hz
    · rw [if_neg (fun x => hc (k1.1 x))] at hz ⊢
      rw [if_neg (fun x => hc (k2.1 x))]
      rw [wrd_sfx h] at hz ⊢
      rw [wrd_sfx g, tw_nl _ rfl _ hy]
      have := wrdL_sh _ _ _ d hz
      rw [← this]
      congr 1
      omega
theorem red_sfx {s : ByteArray} {q : List Nat} {a : Nat} (hq : q ≠ []) (h : Sfx s q a) (hz : (redR s a).2.2 = 0) : ∃ m q', q = m ++ q' ∧ m ≠ [] ∧ (redR s a).2.1 = a + wl m := by
  cases q with
  | nil => exact absurd rfl hq
  | cons c q =>
    have k1 := quote_sfx h
    have ha : a < s.size := by have := h.size; rw [wl_cons] at this; have := wr_pos c; omega
    have hgo := red_go ha hz
    unfold redR at hz hgo ⊢
    by_cases hc : c = 34
    · subst hc
      rw [if_pos (k1.2 rfl)] at hz ⊢
      rw [str_sfx h] at hz ⊢
      obtain ⟨k, q', e1, _, e2⟩ := strG_end a s.size q 0 false [] hz
      exact ⟨34 :: k, q', by rw [e1]; rfl, by simp, by rw [e2, wl_cons, show wr 34 = 1 from rfl]; omega⟩
    · rw [if_neg (fun x => hc (k1.1 x))] at hz hgo ⊢
      rw [wrd_sfx h] at hz hgo ⊢
      rw [wrdL_z _ _ _ hz] at hgo ⊢
      refine ⟨_, _, split_while (fun c => !blk c) (c :: q), ?_, rfl⟩
      intro e
      rw [e, wl_nil] at hgo
      omega
theorem tokG_fuel (s : ByteArray) : ∀ (f g a : Nat) (acc : List Tok), s.size - a < f → s.size - a < g → tokG s f a acc = tokG s g a acc := by
  intro f
  induction f with
  | zero => intro g a acc h _; omega
  | succ f ih =>
    intro g a acc hf hg
    obtain ⟨g, rfl⟩ : ∃ k, g = k + 1 := ⟨g - 1, by omega⟩
    unfold tokG
    by_cases ha : a < s.size
    · rw [if_pos ha, if_pos ha]
      by_cases h0 : (redR s a).2.2 = 0
      · rw [if_pos h0, if_pos h0]
        have h1 := red_go ha h0
        have h2 := bg_bd h1.2
        split
        · rfl
        · exact ih _ _ _ (by omega) (by omega)
      · rw [if_neg h0, if_neg h0]
    · rw [if_neg ha, if_neg ha]
/-- The tokens from a place on. -/
def tokH (s : ByteArray) (a : Nat) (acc : List Tok) : List Tok × Nat × Int := tokG s (s.size + 1) a acc
theorem tokH_end {s : ByteArray} {a : Nat} (acc : List Tok) (h : ¬ a < s.size) : tokH s a acc = (acc, 0, 0) := by
  unfold tokH tokG
  rw [if_neg h]
theorem tokH_go {s : ByteArray} {a : Nat} {acc : List Tok} (h : a < s.size) (h0 : (redR s a).2.2 = 0) (h1 : acc.length ≠ 4096) : tokH s a acc = tokH s (bg s (redR s a).2.1) (acc ++ [(redR s a).1]) := by
  conv => lhs; unfold tokH; unfold tokG
  rw [if_pos h, if_pos h0, if_neg h1]
  have g1 := red_go h h0
  have g2 := bg_bd g1.2
  exact tokG_fuel s _ _ _ _ (by omega) (by omega)
theorem tokH_ok {s : ByteArray} {a : Nat} {acc : List Tok} (h : a < s.size) (hz : (tokH s a acc).2.2 = 0) : (redR s a).2.2 = 0 ∧ acc.length ≠ 4096 := by
  unfold tokH tokG at hz
  rw [if_pos h] at hz
  by_cases h0 : (redR s a).2.2 = 0
  · rw [if_pos h0] at hz
    refine ⟨h0, fun g => ?_⟩
    rw [if_pos g] at hz
    exact absurd hz (by simp)
  · rw [if_neg h0] at hz
    exact absurd hz h0
/-- The tokens of a text, with a line's end and more behind it, further on. -/
theorem tok_run {s S : ByteArray} {y : List Nat} {d : Nat} (hy : Ynl y) : ∀ (n : Nat) (q : List Nat) (a : Nat) (acc' : List Tok), q.length ≤ n → Sfx s q a → Sfx S (q ++ y) (a + d) → (tokH s (bg s a) acc').2.2 = 0 →
    ∃ R, (tokH s (bg s a) acc').1 = acc' ++ R ∧ ∀ acc : List Tok, acc.length + R.length ≤ 4096 → tokH S (bg S (a + d)) acc = tokH S (bg S (s.size + d)) (acc ++ R.map (shT d)) := by
  intro n
  induction n with
  | zero =>
    intro q a acc' hn h g hz
    obtain rfl : q = [] := List.eq_nil_of_length_eq_zero (by omega)
    have hb : Sfx s [] (bg s a) := bg_sfx h
    have hs := h.size
    have hbs := hb.size
    rw [wl_nil] at hs hbs
    refine ⟨[], by rw [tokH_end _ (by omega)]; simp, fun acc _ => ?_⟩
    rw [show s.size + d = a + d by omega]
    simp
  | succ n ih =>
    intro q a acc' hn h g hz
    have hb := bg_sfx h
    have gb := bg_sfx g
    rw [SK_ext y hy _ q (Nat.le_refl _)] at gb
    have hs := h.size
    have gs := g.size
    have hbs := hb.size
    have gy : Sfx S y (s.size + d) := by
      have := g.drop
      rwa [show a + d + wl q = s.size + d by omega] at this
    cases hr : SK q with
    | nil =>
      rw [hr, wl_nil] at hbs
      rw [hr, if_pos rfl] at gb
      refine ⟨[], by rw [tokH_end _ (by omega)]; simp, fun acc _ => ?_⟩
      rw [gb.pos (bg_sfx gy)]
      simp
    | cons c r =>
      rw [hr] at hb hbs
      rw [hr, if_neg (by simp)] at gb
      have gbs := gb.size
      have hw := wr_pos c
      rw [wl_cons] at hbs
      rw [wl_app, wl_cons] at gbs
      rw [wl_app] at gs
      have epos : bg S (a + d) = bg s a + d := by omega
      have hlt : bg s a < s.size := by omega
      obtain ⟨z1, z2⟩ := tokH_ok hlt hz
      rw [tokH_go hlt z1 z2] at hz ⊢
      rw [epos] at gb ⊢
      have hsame := red_same (by simp) hy hb gb z1
      obtain ⟨m, q', em, hm, hp⟩ := red_sfx (by simp) hb z1
      have hb' : Sfx s q' (redR s (bg s a)).2.1 := by rw [hp]; rw [em] at hb; exact hb.drop
      have gb' : Sfx S (q' ++ y) ((redR s (bg s a)).2.1 + d) := by
        rw [em, List.append_assoc] at gb
        have := gb.drop
        rw [hp]
        rwa [show bg s a + d + wl m = bg s a + wl m + d by omega] at this
      have hl : q'.length ≤ n := by
        have h1 := SK_len q
        rw [hr, em, List.length_append] at h1
        have := List.length_pos_iff.2 hm
        omega
      obtain ⟨R, e1, e2⟩ := ih q' _ _ hl hb' gb' hz
      refine ⟨(redR s (bg s a)).1 :: R, by rw [e1]; simp, fun acc hacc => ?_⟩
      rw [List.length_cons] at hacc
      have hz2 : (redR S (bg s a + d)).2.2 = 0 := by rw [hsame]; exact z1
      have hlt2 : bg s a + d < S.size := by omega
      rw [tokH_go hlt2 hz2 (by omega), hsame]
      show tokH S (bg S ((redR s (bg s a)).2.1 + d)) (acc ++ [shT d (redR s (bg s a)).1]) = _
      rw [e2 (acc ++ [shT d (redR s (bg s a)).1]) (by rw [List.length_append]; simp; omega)]
      simp
theorem stR_tx {l : List Nat} (h : VL l) : ¬ stR (tx l) < (tx l).size := by
  have key : ∀ (q : List Nat) (o : Nat), Sfx (tx l) q o → stL (tx l) (pl o q) = (tx l).size := by
    intro q
    induction q with
    | nil => intro o _; rfl
    | cons c q ih =>
      intro o ho
      rw [pl]
      unfold stL
      rw [if_neg]
      · exact ih _ ho.tail
      · rintro ⟨rfl, hp⟩
        rw [ho.rest] at hp
        have e : (tx (65533 :: q)).extract 0 3 = tx [65533] := by
          have : Sfx (tx (65533 :: q)) ([65533] ++ q) 0 := sfx_all ho.vl
          have := this.extract
          rwa [show 0 + wl [65533] = 3 from rfl] at this
        unfold preB at hp
        rw [show rpB.size = 3 from rfl, e, show tx [65533] = rpB from rfl] at hp
        have hz : 3 ≤ (tx (65533 :: q)).size := by rw [tx_size, wl_cons, show wr 65533 = 3 from rfl]; omega
        rw [decide_eq_true hz] at hp
        simp at hp
  unfold stR
  rw [crs_tx0 h, key l 0 (sfx_all h)]
  omega
theorem tokR_h {s : ByteArray} (h0 : s.size ≤ 65536) (h1 : ¬ stR s < s.size) : tokR s = tokH s (bg s 0) [] := by
  unfold tokR
  rw [if_neg (by omega), if_neg h1]
  rfl
theorem tokR_ok {s : ByteArray} (h : (tokR s).2.2 = 0) : s.size ≤ 65536 ∧ ∃ l, VL l ∧ s = tx l := by
  have h0 := tokR_size h
  refine ⟨h0, valid_tx fun g => ?_⟩
  unfold tokR at h
  rw [if_neg (by omega), if_pos g] at h
  exact absurd h (by simp)
theorem tokR_place {s : ByteArray} (h : (tokR s).2.2 = 0) : (tokR s).2.1 = 0 := by
  have key : ∀ (f a : Nat) (acc : List Tok), (tokG s f a acc).2.2 = 0 → (tokG s f a acc).2.1 = 0 := by
    intro f
    induction f with
    | zero => intro a acc _; rfl
    | succ f ih =>
      intro a acc
      unfold tokG
      split
      · split
        · split
          · intro h; simp at h
          · exact ih _ _
        · intro h; exact absurd h (by assumption)
      · intro _; rfl
  unfold tokR at h ⊢
  split
  · rfl
  · rw [if_neg (by assumption)] at h
    split
    · rw [if_pos (by assumption)] at h
      exact absurd h (by simp)
    · rw [if_neg (by assumption)] at h
      exact key _ _ _ h
/-- The tokens of a text behind which more stands on a new line. -/
theorem tok_more {s : ByteArray} {l x : List Nat} (hl : VL l) (hx : VL x) (hs : s = tx l) (h : (tokR s).2.2 = 0) (hz : s.size + 1 + wl x ≤ 65536) :
    tokR (tx (l ++ 10 :: x)) = tokH (tx (l ++ 10 :: x)) (bg (tx (l ++ 10 :: x)) (s.size + 1)) (tokR s).1 := by
  have hv : VL (l ++ 10 :: x) := by
    intro c hc
    rcases List.mem_append.1 hc with hc | hc
    · exact hl c hc
    · rcases List.mem_cons.1 hc with rfl | hc
      · exact .inl (by decide)
      · exact hx c hc
  have h0 := tokR_size h
  subst hs
  have e1 : tokR (tx l) = tokH (tx l) (bg (tx l) 0) [] := tokR_h h0 (stR_tx hl)
  have hsz : (tx (l ++ 10 :: x)).size = (tx l).size + 1 + wl x := by rw [tx_size, tx_size, wl_app, wl_cons, show wr 10 = 1 from rfl]; omega
  rw [tokR_h (by omega) (stR_tx hv)]
  have hlen := tokR_len (tx l)
  rw [e1] at h hlen ⊢
  obtain ⟨R, r1, r2⟩ := tok_run (d := 0) (.inr ⟨x, rfl⟩) l.length l 0 [] (Nat.le_refl _) (sfx_all hl) (sfx_all hv) h
  rw [List.nil_append] at r1
  have h00 : ∀ t : Tok, shT 0 t = t := fun t => by cases t; simp [shT]
  have := r2 [] (by rw [r1] at hlen; simpa using hlen)
  rw [Nat.add_zero, Nat.add_zero, List.nil_append, List.map_congr_left (fun t _ => h00 t), List.map_id'] at this
  rw [this, r1]
  have gy : Sfx (tx (l ++ 10 :: x)) (10 :: x) (tx l).size := by
    have := (sfx_all hv).drop
    rwa [Nat.zero_add, ← tx_size] at this
  have gx := gy.tail
  rw [show wr 10 = 1 from rfl] at gx
  have p1 := bg_sfx gy
  rw [SK_ten] at p1
  rw [p1.pos (bg_sfx gx)]
end Go.Proofs.YtapehdolnljnoaaGreatDoor
namespace Go.Proofs.YtapehdolnljnoaaGreatDoor
open Go.RowKit Go.Lib
set_option linter.unusedSimpArgs false
set_option linter.unusedVariables false
/-- A row of tokens that can be read. -/
def RdT (w : World) (v : Value) (l : List Tok) : Prop := ∃ ao cap, v = .slice ao l.length cap ∧ ∀ i t, l[i]? = some t → ∃ g, ao = some ⟨g, 0, none⟩ ∧ g < w.heap.size ∧ w.cell? ⟨g, i * 4, none⟩ = some (.int .i64 t.k) ∧ w.cell? ⟨g, i * 4 + 1, none⟩ = some (.string t.t) ∧ w.cell? ⟨g, i * 4 + 2, none⟩ = some (.int .i64 t.n) ∧ w.cell? ⟨g, i * 4 + 3, none⟩ = some (.int .i64 t.a)
theorem rdt_toks {w : World} {B : Nat} {v : Value} {l : List Tok} (h : ToksAt w B v l) : RdT w v l := by
  obtain ⟨ao, cap, rfl⟩ := h.1
  refine ⟨ao, cap, rfl, fun i t ht => ?_⟩
  obtain ⟨g, cap', hv, _, hg, c⟩ := toks_cells h ht
  injection hv with e1 e2 e3
  exact ⟨g, e1, hg, c⟩
theorem RdT.only {w w' : World} {v : Value} {l : List Tok} (h : RdT w v l) (o : Only (fun _ => False) w w') : RdT w' v l := by
  obtain ⟨ao, cap, e, h⟩ := h
  refine ⟨ao, cap, e, fun i t ht => ?_⟩
  obtain ⟨g, e1, hg, c0, c1, c2, c3⟩ := h i t ht
  exact ⟨g, e1, Nat.lt_of_lt_of_le hg o.size, o.cell c0 (fun x => x), o.cell c1 (fun x => x), o.cell c2 (fun x => x), o.cell c3 (fun x => x)⟩
/-- A row's beginning. -/
theorem rdt_take {w : World} {B : Nat} {v : Value} {l : List Tok} (h : ToksAt w B v l) {n : Nat} (hn : n ≤ l.length) : ∃ ao cap, v = .slice ao l.length cap ∧ n ≤ cap ∧ RdT w (.slice ao n cap) (l.take n) := by
  obtain ⟨ao, cap, rfl⟩ := h.1
  have hc : l.length ≤ cap := by
    rcases h.2.2 with ⟨e, e2⟩ | ⟨g, cap', cur, fz, hv, _, _, _, hcap, _⟩
    · injection e with e1 e3 e4
      omega
    · injection hv with e1 e3 e4
      omega
  have hl : (l.take n).length = n := by rw [List.length_take]; omega
  refine ⟨ao, cap, rfl, by omega, ao, cap, by rw [hl], fun i t ht => ?_⟩
  have hi : i < n := by have := (List.getElem?_eq_some_iff.1 ht).1; omega
  rw [List.getElem?_take_of_lt hi] at ht
  obtain ⟨g, cap', hv, _, hg, c⟩ := toks_cells h ht
  injection hv with e1 e2 e3
  exact ⟨g, e1, hg, c⟩
theorem chain_mem {s : ByteArray} : ∀ (l : List Tok) (last : Int) (i : Nat) (b : Tok), Chain s last l → l[i]? = some b → ∃ a : Nat, b.a = (a : Int) ∧ a < s.size
  | [], _, i, b, _, h => by simp at h
  | t :: l, last, 0, b, ⟨a, _, h2, h3, _⟩, h => by
    simp only [List.getElem?_cons_zero, Option.some.injEq] at h
    subst h
    exact ⟨a, h3.at_, h2⟩
  | t :: l, last, i + 1, b, ⟨a, _, _, _, h4⟩, h => chain_mem l _ i b h4 (by simpa using h)
theorem joins_pure {s t : ByteArray} (h1 : (tokR s).2.2 = 0) (h2 : (tokR t).2.2 = 0) (hz : s.size + t.size < 65536) (hn : (tokR s).1.length + (tokR t).1.length ≤ 4096) :
    tokR (s ++ ⟨#[10]⟩ ++ t) = ((tokR s).1 ++ (tokR t).1.map (shT (s.size + 1)), 0, 0) := by
  obtain ⟨_, l, hl, e1⟩ := tokR_ok h1
  obtain ⟨z2, x, hx, e2⟩ := tokR_ok h2
  have e : s ++ ⟨#[10]⟩ ++ t = tx (l ++ 10 :: x) := by
    rw [e1, e2, show (⟨#[10]⟩ : ByteArray) = tx [10] from rfl, tx_app, tx_app, List.append_assoc]
    rfl
  have ht : t.size = wl x := by rw [e2, tx_size]
  have hs : s.size = wl l := by rw [e1, tx_size]
  have hm := tok_more hl hx e1 h1 (by omega)
  rw [e, hm]
  have hv : VL (l ++ 10 :: x) := by
    intro c hc
    rcases List.mem_append.1 hc with hc | hc
    · exact hl c hc
    · rcases List.mem_cons.1 hc with rfl | hc
      · exact .inl (by decide)
      · exact hx c hc
  have e3 : tokR t = tokH t (bg t 0) [] := by
    rw [e2]
    exact tokR_h (by rw [← e2]; exact z2) (stR_tx hx)
  have gx : Sfx (tx (l ++ 10 :: x)) (x ++ []) (0 + (s.size + 1)) := by
    have : Sfx (tx (l ++ 10 :: x)) (l ++ 10 :: x) 0 := sfx_all hv
    have := this.drop.tail
    rw [List.append_nil, Nat.zero_add, hs]
    rwa [Nat.zero_add, show wr 10 = 1 from rfl] at this
  rw [e3] at h2 hn ⊢
  obtain ⟨R, r1, r2⟩ := tok_run (d := s.size + 1) (.inl rfl) x.length x 0 [] (Nat.le_refl _) (by rw [e2]; exact sfx_all hx) gx h2
  rw [List.nil_append] at r1
  rw [r1] at hn ⊢
  have := r2 (tokR s).1 hn
  rw [Nat.zero_add] at this
  rw [this]
  apply tokH_end
  have hb := bg_bd (s := tx (l ++ 10 :: x)) (a := t.size + (s.size + 1)) (by rw [tx_size, wl_app, wl_cons, show wr 10 = 1 from rfl]; omega)
  have : (tx (l ++ 10 :: x)).size = t.size + (s.size + 1) := by rw [tx_size, wl_app, wl_cons, show wr 10 = 1 from rfl]; omega
  omega
end Go.Proofs.YtapehdolnljnoaaGreatDoor
namespace Go.Proofs.YtapehdolnljnoaaGreatDoor
open Go.RowKit Go.Lib
set_option linter.unusedSimpArgs false
set_option linter.unusedVariables false
/-- A character of a text: its number, its place, the place behind it, and whether the byte belongs to none. -/
structure Chr where
  r : Nat
  a : Nat
  z : Nat
  b : Bool
def chr1 (s : ByteArray) (x : Nat × Nat) : Chr := if x.2 = 65533 ∧ preB (s.extract x.1 s.size) rpB = false then ⟨x.2, x.1, x.1 + 1, true⟩ else ⟨x.2, x.1, x.1 + wr x.2, false⟩
def chrL (s : ByteArray) : List Chr := (chs s).map (chr1 s)
def chCs (l : List Chr) : List Value := l.flatMap fun c => [.int .i32 (c.r : Int), .int .i64 (c.a : Int), .int .i64 (c.z : Int), .bool c.b]
theorem chCs_snoc (l : List Chr) (c : Chr) : chCs (l ++ [c]) = chCs l ++ [.int .i32 (c.r : Int), .int .i64 (c.a : Int), .int .i64 (c.z : Int), .bool c.b] := by simp [chCs]
set_option maxRecDepth 100000 in
theorem chr_info : ∃ i z, Tryz.prog.info? 131 = some i ∧ i.zero = some z ∧ i.size = 4 ∧ i.bytes = 32 ∧ z.cells.size = 4 := ⟨_, _, rfl, rfl, rfl, rfl, rfl⟩
/-- A row of characters that was made since block B. -/
def ChrAt (w : World) (B : Nat) (v : Value) (l : List Chr) : Prop := (∃ ao cap, v = .slice ao l.length cap) ∧ w.ownsRowF B 131 4 v l.length (chCs l)
theorem chCs_get : ∀ (l : List Chr) (i : Nat) (t : Chr), l[i]? = some t → (chCs l)[i * 4]? = some (.int .i32 (t.r : Int)) ∧ (chCs l)[i * 4 + 1]? = some (.int .i64 (t.a : Int)) ∧ (chCs l)[i * 4 + 2]? = some (.int .i64 (t.z : Int)) ∧ (chCs l)[i * 4 + 3]? = some (.bool t.b)
  | [], i, t, h => by simp at h
  | x :: l, 0, t, h => by
    simp only [List.getElem?_cons_zero, Option.some.injEq] at h
    subst h
    simp [chCs]
  | x :: l, i + 1, t, h => by
    have := chCs_get l i t (by simpa using h)
    have e : ∀ k, (chCs (x :: l))[k + 4]? = (chCs l)[k]? := fun k => by simp [chCs]
    rw [show (i + 1) * 4 = i * 4 + 4 by omega, show i * 4 + 4 + 1 = i * 4 + 1 + 4 by omega, show i * 4 + 4 + 2 = i * 4 + 2 + 4 by omega, show i * 4 + 4 + 3 = i * 4 + 3 + 4 by omega, e, e, e, e]
    exact this
theorem chr_cells {w : World} {B : Nat} {v : Value} {l : List Chr} (h : ChrAt w B v l) {i : Nat} {t : Chr} (ht : l[i]? = some t) :
    ∃ g cap, v = .slice (some ⟨g, 0, none⟩) l.length cap ∧ B ≤ g ∧ g < w.heap.size ∧ w.cell? ⟨g, i * 4, none⟩ = some (.int .i32 (t.r : Int)) ∧ w.cell? ⟨g, i * 4 + 1, none⟩ = some (.int .i64 (t.a : Int)) ∧ w.cell? ⟨g, i * 4 + 2, none⟩ = some (.int .i64 (t.z : Int)) ∧ w.cell? ⟨g, i * 4 + 3, none⟩ = some (.bool t.b) := by
  obtain ⟨c0, c1, c2, c3⟩ := chCs_get l i t ht
  have hi : i < l.length := (List.getElem?_eq_some_iff.1 ht).1
  rcases h.2.2 with ⟨_, h0⟩ | ⟨g, cap, cur, fz, hv, hB, hg, _⟩
  · omega
  · subst hv
    exact ⟨g, cap, rfl, hB, (Array.getElem?_eq_some_iff.1 hg).1, (by have := h.2.cells (g := g) rfl _ _ c0; rwa [addr_add] at this), (by have := h.2.cells (g := g) rfl _ _ c1; rwa [addr_add] at this), (by have := h.2.cells (g := g) rfl _ _ c2; rwa [addr_add] at this), (by have := h.2.cells (g := g) rfl _ _ c3; rwa [addr_add] at this)⟩
/-- The language's own encoding of a character. -/
theorem encode_tx {c : Nat} (hc : Vr c) : Utf8.encode (c : Int) = tx [c] := by
  apply tx_inj
  rw [show enL [c] = encodeRune (c : Int) by simp [enL]]
  have hv : Utf8.valid (c : Int) = true := by
    unfold Vr at hc
    simp only [Utf8.valid, Bool.and_eq_true, Bool.or_eq_true, decide_eq_true_eq]
    omega
  unfold Utf8.encode
  simp only [hv, if_true, Int.toNat_natCast]
  unfold Vr at hc
  by_cases h1 : c ≤ 127
  · rw [enc1 h1, if_pos (by omega)]
  · by_cases h2 : c ≤ 2047
    · rw [enc2 (by omega) h2, if_neg (by omega), if_pos (by omega)]
    · by_cases h3 : c ≤ 65535
      · rw [enc3 (by omega), if_neg (by omega), if_neg (by omega), if_pos (by omega)]
      · rw [enc4 (by omega) (by omega), if_neg (by omega), if_neg (by omega), if_neg (by omega)]
theorem wr_le (c : Nat) : wr c ≤ 4 := by
  have := (runeCells_le (c : Int)).2
  rw [runeCells_length] at this
  exact this
theorem ext3 (s : ByteArray) (i : Nat) (h : i + 3 ≤ s.size) : (s.extract i s.size).extract 0 3 = s.extract i (i + 3) := by
  apply ByteArray.ext
  simp only [ByteArray.data_extract, Array.extract_extract, Nat.add_zero]
  rw [show min (i + 3) s.size = i + 3 by omega]
theorem list_inj {x y : ByteArray} (h : x.toList = y.toList) : x = y := by
  rw [ByteArray.toList_eq, ByteArray.toList_eq] at h
  exact ByteArray.ext (Array.toList_inj.1 h)
/-- The three bytes of the character FFFD stand at a place, or not. -/
theorem pre_three (s : ByteArray) (i : Nat) (hi : i ≤ s.size) : preB (s.extract i s.size) rpB = decide (i + 3 ≤ s.size ∧ s.extract i (i + 3) = rpB) := by
  have hz : (s.extract i s.size).size = s.size - i := by rw [ByteArray.size_extract]; omega
  unfold preB
  rw [show rpB.size = 3 from rfl, hz]
  by_cases h : i + 3 ≤ s.size
  · rw [ext3 s i h, decide_eq_true (by omega : 3 ≤ s.size - i), Bool.true_and]
    by_cases h2 : s.extract i (i + 3) = rpB
    · rw [decide_eq_true ⟨h, h2⟩, h2]
      simp
    · rw [decide_eq_false (fun g => h2 g.2), Bool.eq_false_iff]
      intro g
      exact h2 (list_inj (by simpa using g))
  · rw [decide_eq_false (by omega : ¬ 3 ≤ s.size - i), decide_eq_false (fun g => h g.1)]
    rfl
theorem new_cells (W : World) (t : TypeId) (a b c d : Value) : ∀ (j : Nat) (u : Value), [a, b, c, d][j]? = some u → (W.alloc (.cells #[a, b, c, d] t)).cell? ((⟨W.heap.size, 0, none⟩ : Addr).add j) = some u := by
  intro j u hj
  rw [addr_add, blk_cells (alloc_at W _ _ rfl)]
  simpa using hj
theorem one4 (x y z : Int) (b : Bool) : ∀ u ∈ [Value.int .i32 x, .int .i64 y, .int .i64 z, .bool b], u.oneCell' = true := by
  intro u hu
  simp only [List.mem_cons, List.not_mem_nil, or_false] at hu
  rcases hu with rfl | rfl | rfl | rfl <;> rfl
set_option maxRecDepth 100000 in
set_option maxHeartbeats 400000 in
theorem chars_any (s : ByteArray) (hs : s.size ≤ 4000000) (w : World) :
    Calls Tryz.prog 55 #[.string s] w fun e w' => ∃ v, e = .returned v ∧ Hid (ChrAt w' w.heap.size v (chrL s) ∧ Below w.heap.size w w') := by
  obtain ⟨Z, hZ⟩ : ∃ Z, Z = chrL s := ⟨_, rfl⟩
  have HZ : Hid (Z = [] ++ (crs s s.size 0).map (chr1 s)) := hZ
  rw [← hZ]
  clear hZ
  obtain ⟨i0, z0, hi, hz0, hz1, hz2, hz3⟩ := chr_info
  have HI0 : Hid (Tryz.prog.info? 131 = some i0 ∧ i0.zero = some z0 ∧ i0.size = 4 ∧ i0.bytes = 32 ∧ z0.cells.size = 4) := ⟨hi, hz0, hz1, hz2, hz3⟩
  clear hi hz0 hz1 hz2 hz3
  go_enter Tryz.func55, Tryz.ntmps55
  go_wp2
  go_loopw [3] (fun r3 wr_ => ∃ (pos b : Nat) (acc : List Chr) (ao : Option Addr) (cap : Nat), r3 = .slice ao acc.length cap ∧ Hid (wr_.heap[w.heap.size]? = some (.stringIter s pos) ∧ Z = acc ++ (crs s b pos).map (chr1 s) ∧ s.size ≤ pos + b ∧ pos ≤ s.size ∧ acc.length ≤ pos ∧ wr_.ownsRowF (w.heap.size + 1) 131 4 (.slice ao acc.length cap) acc.length (chCs acc) ∧ Below w.heap.size w wr_)) (fun _ wr_ => s.size - wr_.iterPos w.heap.size)
  case atStart => exact ⟨0, s.size, [], none, 0, rfl, alloc_at _ _ _ rfl, HZ.out, by omega, by omega, by simp, ⟨rfl, .inl ⟨rfl, rfl⟩⟩, (Below.refl _ w).alloc (Nat.le_refl _) _⟩
  case round =>
    obtain ⟨pos, b, acc, ao, cap, rfl, HI⟩ := hrel
    obtain ⟨w1, rfl⟩ : ∃ w1, w1 = wr := ⟨_, rfl⟩
    clear HZ
    by_cases hp : pos < s.size
    · have hnx : ∀ ty, (Instr.next (.pointer (some ⟨w.heap.size, 0, none⟩)) true ty).run Tryz.prog w1 = _ := fun ty => run_next_any_at w1 w.heap.size s pos ty HI.out.1 hp
      have hwd := wid_pos s pos hp
      have hwp := decode_wd s pos hp
      obtain ⟨b', hb', hcr⟩ := crs_go hp HI.out.2.2.1
      have hvr := decode_vr s pos
      have hdl := decode_le s pos
      obtain ⟨c, hc⟩ : ∃ c, c = (Utf8.decode s pos).1 := ⟨_, rfl⟩
      obtain ⟨wd, hw⟩ : ∃ c, c = (Utf8.decode s pos).2 := ⟨_, rfl⟩
      rw [← hc, ← hw] at hnx hcr
      rw [← hc] at hvr hdl
      rw [← hw] at hwd hwp
      have hcv : ∀ W : World, (convert 21 9 (.int .i32 (c : Int))).run Tryz.prog W = .ok (.string (tx [c])) W := fun W => by
        rw [← encode_tx hvr]
        exact run_convert_int_string W _ _ _ _ rfl Tryz.underlying9
      have hts : (tx [c]).size = wr c := by rw [tx_size, wl_cons, wl_nil, Nat.add_zero]
      have hw4 := wr_le c
      have hw1 := wr_pos c
      obtain ⟨X, hX⟩ : ∃ X, X = tx [c] := ⟨_, rfl⟩
      rw [← hX] at hcv hts
      have HXr : Hid (c = 65533 → wr c = 3) := fun g => by rw [g]; rfl
      have hmp : w1.iterPos w.heap.size = pos := by simp only [World.iterPos, HI.out.1]
      obtain ⟨W2, hW2⟩ : ∃ W2, W2 = w1.iterAt w.heap.size s (pos + wd) := ⟨_, rfl⟩
      have HJ : Hid (W2.heap[w.heap.size]? = some (.stringIter s (pos + wd)) ∧ Z = acc ++ (chr1 s (pos, c) :: (crs s b' (pos + wd)).map (chr1 s)) ∧ s.size ≤ pos + wd + b' ∧ acc.length ≤ pos ∧ W2.ownsRowF (w.heap.size + 1) 131 4 (.slice ao acc.length cap) acc.length (chCs acc) ∧ Below w.heap.size w W2) := by
        obtain ⟨j1, j2, j3, j4, j5, j6, j7⟩ := HI.out
        rw [hW2]
        refine ⟨iterAt_heap _ _ _ _ _ j1, by rw [j2, hcr]; rfl, by omega, j5, ⟨j6.1, ?_⟩, below_iterAt j7 (Nat.le_refl _) _ _⟩
        rcases j6.2 with g | ⟨g, cap', cur, fz, h1, h2, h3, h4⟩
        · exact .inl g
        · exact .inr ⟨g, cap', cur, fz, h1, h2, (iterAt_other _ _ _ _ _ (by omega)).trans h3, h4⟩
      rw [← hW2] at hnx
      obtain ⟨L, hL⟩ : ∃ L, L = acc.length := ⟨_, rfl⟩
      have HL : Hid (L = acc.length) := hL
      have hLp : L ≤ 4000000 := by have := HI.out.2.2.2.2.1; omega
      rw [← hL] at HJ ⊢
      clear HI hc hw hcr hb' hvr hW2 hL hX
      by_cases h3 : c = 65533
      · have hw3 := HXr.out h3
        have hp3 := pre_three s pos (Nat.le_of_lt hp)
        rw [hw3] at hts
        by_cases hok : pos + 3 ≤ s.size ∧ s.extract pos (pos + 3) = rpB
        · rw [decide_eq_true hok] at hp3
          have HE : Hid (chr1 s (pos, c) = ⟨c, pos, pos + 3, false⟩) := by
            show chr1 s (pos, c) = _
            unfold chr1
            rw [if_neg (by rw [hp3]; simp), hw3]
          have hsl : ∀ W : World, (Instr.slice 9 (.string s) (some (.int .i64 (pos : Int))) (some (.int .i64 ((pos : Int) + 3))) none).run Tryz.prog W = .ok (.string ⟨#[239, 191, 189]⟩) W := fun W => by
            rw [show ((pos : Int) + 3) = ((pos + 3 : Nat) : Int) by omega, run_slice_string W 9 s _ _ _ _ Tryz.underlying9 (by omega) (by omega) (by omega)]
            show Result.ok (Value.string (s.extract pos (pos + 3))) W = _
            rw [hok.2]
            rfl
          have i1 : ¬ (s.size : Int) < (pos : Int) + 3 := by omega
          have hb3 : ((c : Int) == 65533) = true := by rw [h3]; rfl
          clear hp3 hok h3 HXr
          obtain ⟨hi, hz0, hz1, hz2, hz3⟩ := HI0.out
          have hm1 : L + 1 ≤ maxLen := by unfold maxLen; omega
          have hm2 : (L + 1) * 32 ≤ 140737488355328 := by omega
          have HM3 : Hid (∀ o, w.heap.size + 1 ≤ (W2.alloc o).heap.size) := fun o => by have := (Array.getElem?_eq_some_iff.1 HJ.out.1).1; simp; omega
          go_wp2_with (at_builtin; refine wpList_append_ownF _ rfl _ _ 127 rfl (w.heap.size + 1) 131 i0 z0 4 32 Tryz.underlying127 hi hz0 hz1 hz2 hz3 (by decide) _ L (chCs acc) rfl (HJ.out.2.2.2.2.1.alloc _) ⟨W2.heap.size, 0, none⟩ 1 1 [.int .i32 (c : Int), .int .i64 (pos : Int), .int .i64 ((pos : Int) + 3), .bool false] rfl rfl (new_cells _ _ _ _ _ _) (one4 _ _ _ _) hm1 hm2 (HM3.out _) ?_)
          intro v' w4 hown' hgrow _
          obtain ⟨ao', cap', rfl⟩ : ∃ ao' cap', v' = .slice ao' (L + 1) cap' := by
            rcases hown'.2 with ⟨_, h0⟩ | ⟨g, cap', cur, fz, hv, _⟩
            · omega
            · exact ⟨_, cap', hv⟩
          have hlt2 : w.heap.size < W2.heap.size := (Array.getElem?_eq_some_iff.1 HJ.out.1).1
          have hnb : ∀ k, (Value.slice ao L cap).ownBlock = some k → w.heap.size + 1 ≤ k := fun k hk => (HJ.out.2.2.2.2.1.lt k hk).1
          have e1 : L = acc.length := HL.out
          have e2 : (acc ++ [(⟨c, pos, pos + 3, false⟩ : Chr)]).length = L + 1 := by simp [e1]
          have HK : Hid (w4.heap[w.heap.size]? = some (.stringIter s (pos + wd)) ∧ Z = (acc ++ [(⟨c, pos, pos + 3, false⟩ : Chr)]) ++ (crs s b' (pos + wd)).map (chr1 s) ∧ s.size ≤ pos + wd + b' ∧ pos + wd ≤ s.size ∧ (acc ++ [(⟨c, pos, pos + 3, false⟩ : Chr)]).length ≤ pos + wd ∧ w4.ownsRowF (w.heap.size + 1) 131 4 (.slice ao' (acc ++ [(⟨c, pos, pos + 3, false⟩ : Chr)]).length cap') (acc ++ [(⟨c, pos, pos + 3, false⟩ : Chr)]).length (chCs (acc ++ [(⟨c, pos, pos + 3, false⟩ : Chr)])) ∧ Below w.heap.size w w4) := by
            refine ⟨?_, by rw [HJ.out.2.1, HE.out, List.append_assoc]; rfl, HJ.out.2.2.1, hwp, by rw [e2]; have := HJ.out.2.2.2.1; omega, ?_, ?_⟩
            · rw [hgrow.block w.heap.size (by simp; omega) (fun e => by have := hnb _ e.symm; omega), alloc_old W2 _ w.heap.size hlt2]
              exact HJ.out.1
            · rw [e2, chCs_snoc]
              exact hown'
            · exact (HJ.out.2.2.2.2.2.alloc (by omega) _).grown hgrow (by simp; omega) (fun k hk => by have := hnb k hk; omega)
          have HV : Hid ((Value.slice ao' (L + 1) cap') = .slice ao' (acc ++ [(⟨c, pos, pos + 3, false⟩ : Chr)]).length cap') := by rw [e2]; exact rfl
          clear hown' hgrow e2 e1 hnb hlt2 HJ HE
          go_wp2
          go_roundw
          case rel => exact ⟨pos + wd, b', acc ++ [(⟨c, pos, pos + 3, false⟩ : Chr)], ao', cap', HV.out, HK⟩
          case measure => have e1 : w4.iterPos w.heap.size = pos + wd := by simp only [World.iterPos, HK.out.1]
                          omega
        · rw [decide_eq_false hok] at hp3
          have HE : Hid (chr1 s (pos, c) = ⟨c, pos, pos + 1, true⟩) := by
            show chr1 s (pos, c) = _
            unfold chr1
            rw [if_pos ⟨h3, hp3⟩]
          by_cases hle : pos + 3 ≤ s.size
          · have hne : ¬ s.extract pos (pos + 3) = rpB := fun g => hok ⟨hle, g⟩
            obtain ⟨Y, hY⟩ : ∃ Y, Y = s.extract pos (pos + 3) := ⟨_, rfl⟩
            have hsl : ∀ W : World, (Instr.slice 9 (.string s) (some (.int .i64 (pos : Int))) (some (.int .i64 ((pos : Int) + 3))) none).run Tryz.prog W = .ok (.string Y) W := fun W => by
              rw [show ((pos : Int) + 3) = ((pos + 3 : Nat) : Int) by omega, run_slice_string W 9 s _ _ _ _ Tryz.underlying9 (by omega) (by omega) (by omega)]
              show Result.ok (Value.string (s.extract pos (pos + 3))) W = _
              rw [hY]
            rw [← hY] at hne
            have i1 : ¬ (s.size : Int) < (pos : Int) + 3 := by omega
            have hb3 : ((c : Int) == 65533) = true := by rw [h3]; rfl
            clear hp3 hok hY h3 HXr
            have hnl : (Y.toList == [239, 191, 189]) = false := by
              rw [Bool.eq_false_iff]
              intro g
              apply hne
              apply list_inj
              rw [show rpB.toList = [239, 191, 189] by rw [ByteArray.toList_eq]; rfl]
              simpa using g
            have hnl2 : ¬ Y.toList = [239, 191, 189] := by simpa using hnl
            clear hne
            obtain ⟨hi, hz0, hz1, hz2, hz3⟩ := HI0.out
            have hm1 : L + 1 ≤ maxLen := by unfold maxLen; omega
            have hm2 : (L + 1) * 32 ≤ 140737488355328 := by omega
            have HM3 : Hid (∀ o, w.heap.size + 1 ≤ (W2.alloc o).heap.size) := fun o => by have := (Array.getElem?_eq_some_iff.1 HJ.out.1).1; simp; omega
            go_wp2_with (at_builtin; refine wpList_append_ownF _ rfl _ _ 127 rfl (w.heap.size + 1) 131 i0 z0 4 32 Tryz.underlying127 hi hz0 hz1 hz2 hz3 (by decide) _ L (chCs acc) rfl (HJ.out.2.2.2.2.1.alloc _) ⟨W2.heap.size, 0, none⟩ 1 1 [.int .i32 (c : Int), .int .i64 (pos : Int), .int .i64 ((pos : Int) + 1), .bool true] rfl rfl (new_cells _ _ _ _ _ _) (one4 _ _ _ _) hm1 hm2 (HM3.out _) ?_)
            intro v' w4 hown' hgrow _
            obtain ⟨ao', cap', rfl⟩ : ∃ ao' cap', v' = .slice ao' (L + 1) cap' := by
              rcases hown'.2 with ⟨_, h0⟩ | ⟨g, cap', cur, fz, hv, _⟩
              · omega
              · exact ⟨_, cap', hv⟩
            have hlt2 : w.heap.size < W2.heap.size := (Array.getElem?_eq_some_iff.1 HJ.out.1).1
            have hnb : ∀ k, (Value.slice ao L cap).ownBlock = some k → w.heap.size + 1 ≤ k := fun k hk => (HJ.out.2.2.2.2.1.lt k hk).1
            have e1 : L = acc.length := HL.out
            have e2 : (acc ++ [(⟨c, pos, pos + 1, true⟩ : Chr)]).length = L + 1 := by simp [e1]
            have HK : Hid (w4.heap[w.heap.size]? = some (.stringIter s (pos + wd)) ∧ Z = (acc ++ [(⟨c, pos, pos + 1, true⟩ : Chr)]) ++ (crs s b' (pos + wd)).map (chr1 s) ∧ s.size ≤ pos + wd + b' ∧ pos + wd ≤ s.size ∧ (acc ++ [(⟨c, pos, pos + 1, true⟩ : Chr)]).length ≤ pos + wd ∧ w4.ownsRowF (w.heap.size + 1) 131 4 (.slice ao' (acc ++ [(⟨c, pos, pos + 1, true⟩ : Chr)]).length cap') (acc ++ [(⟨c, pos, pos + 1, true⟩ : Chr)]).length (chCs (acc ++ [(⟨c, pos, pos + 1, true⟩ : Chr)])) ∧ Below w.heap.size w w4) := by
              refine ⟨?_, by rw [HJ.out.2.1, HE.out, List.append_assoc]; rfl, HJ.out.2.2.1, hwp, by rw [e2]; have := HJ.out.2.2.2.1; omega, ?_, ?_⟩
              · rw [hgrow.block w.heap.size (by simp; omega) (fun e => by have := hnb _ e.symm; omega), alloc_old W2 _ w.heap.size hlt2]
                exact HJ.out.1
              · rw [e2, chCs_snoc]
                exact hown'
              · exact (HJ.out.2.2.2.2.2.alloc (by omega) _).grown hgrow (by simp; omega) (fun k hk => by have := hnb k hk; omega)
            have HV : Hid ((Value.slice ao' (L + 1) cap') = .slice ao' (acc ++ [(⟨c, pos, pos + 1, true⟩ : Chr)]).length cap') := by rw [e2]; exact rfl
            clear hown' hgrow e2 e1 hnb hlt2 HJ HE
            go_wp2
            go_roundw
            case rel => exact ⟨pos + wd, b', acc ++ [(⟨c, pos, pos + 1, true⟩ : Chr)], ao', cap', HV.out, HK⟩
            case measure => have e1 : w4.iterPos w.heap.size = pos + wd := by simp only [World.iterPos, HK.out.1]
                            omega
          · have i1 : (s.size : Int) < (pos : Int) + 3 := by omega
            have hb3 : ((c : Int) == 65533) = true := by rw [h3]; rfl
            clear hp3 hok h3 HXr
            obtain ⟨hi, hz0, hz1, hz2, hz3⟩ := HI0.out
            have hm1 : L + 1 ≤ maxLen := by unfold maxLen; omega
            have hm2 : (L + 1) * 32 ≤ 140737488355328 := by omega
            have HM3 : Hid (∀ o, w.heap.size + 1 ≤ (W2.alloc o).heap.size) := fun o => by have := (Array.getElem?_eq_some_iff.1 HJ.out.1).1; simp; omega
            go_wp2_with (at_builtin; refine wpList_append_ownF _ rfl _ _ 127 rfl (w.heap.size + 1) 131 i0 z0 4 32 Tryz.underlying127 hi hz0 hz1 hz2 hz3 (by decide) _ L (chCs acc) rfl (HJ.out.2.2.2.2.1.alloc _) ⟨W2.heap.size, 0, none⟩ 1 1 [.int .i32 (c : Int), .int .i64 (pos : Int), .int .i64 ((pos : Int) + 1), .bool true] rfl rfl (new_cells _ _ _ _ _ _) (one4 _ _ _ _) hm1 hm2 (HM3.out _) ?_)
            intro v' w4 hown' hgrow _
            obtain ⟨ao', cap', rfl⟩ : ∃ ao' cap', v' = .slice ao' (L + 1) cap' := by
              rcases hown'.2 with ⟨_, h0⟩ | ⟨g, cap', cur, fz, hv, _⟩
              · omega
              · exact ⟨_, cap', hv⟩
            have hlt2 : w.heap.size < W2.heap.size := (Array.getElem?_eq_some_iff.1 HJ.out.1).1
            have hnb : ∀ k, (Value.slice ao L cap).ownBlock = some k → w.heap.size + 1 ≤ k := fun k hk => (HJ.out.2.2.2.2.1.lt k hk).1
            have e1 : L = acc.length := HL.out
            have e2 : (acc ++ [(⟨c, pos, pos + 1, true⟩ : Chr)]).length = L + 1 := by simp [e1]
            have HK : Hid (w4.heap[w.heap.size]? = some (.stringIter s (pos + wd)) ∧ Z = (acc ++ [(⟨c, pos, pos + 1, true⟩ : Chr)]) ++ (crs s b' (pos + wd)).map (chr1 s) ∧ s.size ≤ pos + wd + b' ∧ pos + wd ≤ s.size ∧ (acc ++ [(⟨c, pos, pos + 1, true⟩ : Chr)]).length ≤ pos + wd ∧ w4.ownsRowF (w.heap.size + 1) 131 4 (.slice ao' (acc ++ [(⟨c, pos, pos + 1, true⟩ : Chr)]).length cap') (acc ++ [(⟨c, pos, pos + 1, true⟩ : Chr)]).length (chCs (acc ++ [(⟨c, pos, pos + 1, true⟩ : Chr)])) ∧ Below w.heap.size w w4) := by
              refine ⟨?_, by rw [HJ.out.2.1, HE.out, List.append_assoc]; rfl, HJ.out.2.2.1, hwp, by rw [e2]; have := HJ.out.2.2.2.1; omega, ?_, ?_⟩
              · rw [hgrow.block w.heap.size (by simp; omega) (fun e => by have := hnb _ e.symm; omega), alloc_old W2 _ w.heap.size hlt2]
                exact HJ.out.1
              · rw [e2, chCs_snoc]
                exact hown'
              · exact (HJ.out.2.2.2.2.2.alloc (by omega) _).grown hgrow (by simp; omega) (fun k hk => by have := hnb k hk; omega)
            have HV : Hid ((Value.slice ao' (L + 1) cap') = .slice ao' (acc ++ [(⟨c, pos, pos + 1, true⟩ : Chr)]).length cap') := by rw [e2]; exact rfl
            clear hown' hgrow e2 e1 hnb hlt2 HJ HE
            go_wp2
            go_roundw
            case rel => exact ⟨pos + wd, b', acc ++ [(⟨c, pos, pos + 1, true⟩ : Chr)], ao', cap', HV.out, HK⟩
            case measure => have e1 : w4.iterPos w.heap.size = pos + wd := by simp only [World.iterPos, HK.out.1]
                            omega
      · have HE : Hid (chr1 s (pos, c) = ⟨c, pos, pos + wr c, false⟩) := by
          show chr1 s (pos, c) = _
          unfold chr1
          rw [if_neg (fun g => h3 g.1)]
        have i3 : ¬ (c : Int) = 65533 := by omega
        obtain ⟨R, hR⟩ : ∃ R, R = wr c := ⟨_, rfl⟩
        rw [← hR] at hts HE hw4 hw1
        clear HXr h3 hR
        obtain ⟨hi, hz0, hz1, hz2, hz3⟩ := HI0.out
        have hm1 : L + 1 ≤ maxLen := by unfold maxLen; omega
        have hm2 : (L + 1) * 32 ≤ 140737488355328 := by omega
        have HM3 : Hid (∀ o, w.heap.size + 1 ≤ (W2.alloc o).heap.size) := fun o => by have := (Array.getElem?_eq_some_iff.1 HJ.out.1).1; simp; omega
        go_wp2_with (at_builtin; refine wpList_append_ownF _ rfl _ _ 127 rfl (w.heap.size + 1) 131 i0 z0 4 32 Tryz.underlying127 hi hz0 hz1 hz2 hz3 (by decide) _ L (chCs acc) rfl (HJ.out.2.2.2.2.1.alloc _) ⟨W2.heap.size, 0, none⟩ 1 1 [.int .i32 (c : Int), .int .i64 (pos : Int), .int .i64 ((pos : Int) + (R : Int)), .bool false] rfl rfl (new_cells _ _ _ _ _ _) (one4 _ _ _ _) hm1 hm2 (HM3.out _) ?_)
        intro v' w4 hown' hgrow _
        obtain ⟨ao', cap', rfl⟩ : ∃ ao' cap', v' = .slice ao' (L + 1) cap' := by
          rcases hown'.2 with ⟨_, h0⟩ | ⟨g, cap', cur, fz, hv, _⟩
          · omega
          · exact ⟨_, cap', hv⟩
        have hlt2 : w.heap.size < W2.heap.size := (Array.getElem?_eq_some_iff.1 HJ.out.1).1
        have hnb : ∀ k, (Value.slice ao L cap).ownBlock = some k → w.heap.size + 1 ≤ k := fun k hk => (HJ.out.2.2.2.2.1.lt k hk).1
        have e1 : L = acc.length := HL.out
        have e2 : (acc ++ [(⟨c, pos, pos + R, false⟩ : Chr)]).length = L + 1 := by simp [e1]
        have HK : Hid (w4.heap[w.heap.size]? = some (.stringIter s (pos + wd)) ∧ Z = (acc ++ [(⟨c, pos, pos + R, false⟩ : Chr)]) ++ (crs s b' (pos + wd)).map (chr1 s) ∧ s.size ≤ pos + wd + b' ∧ pos + wd ≤ s.size ∧ (acc ++ [(⟨c, pos, pos + R, false⟩ : Chr)]).length ≤ pos + wd ∧ w4.ownsRowF (w.heap.size + 1) 131 4 (.slice ao' (acc ++ [(⟨c, pos, pos + R, false⟩ : Chr)]).length cap') (acc ++ [(⟨c, pos, pos + R, false⟩ : Chr)]).length (chCs (acc ++ [(⟨c, pos, pos + R, false⟩ : Chr)])) ∧ Below w.heap.size w w4) := by
          refine ⟨?_, by rw [HJ.out.2.1, HE.out, List.append_assoc]; rfl, HJ.out.2.2.1, hwp, by rw [e2]; have := HJ.out.2.2.2.1; omega, ?_, ?_⟩
          · rw [hgrow.block w.heap.size (by simp; omega) (fun e => by have := hnb _ e.symm; omega), alloc_old W2 _ w.heap.size hlt2]
            exact HJ.out.1
          · rw [e2, chCs_snoc]
            exact hown'
          · exact (HJ.out.2.2.2.2.2.alloc (by omega) _).grown hgrow (by simp; omega) (fun k hk => by have := hnb k hk; omega)
        have HV : Hid ((Value.slice ao' (L + 1) cap') = .slice ao' (acc ++ [(⟨c, pos, pos + R, false⟩ : Chr)]).length cap') := by rw [e2]; exact rfl
        clear hown' hgrow e2 e1 hnb hlt2 HJ HE
        go_wp2
        go_roundw
        case rel => exact ⟨pos + wd, b', acc ++ [(⟨c, pos, pos + R, false⟩ : Chr)], ao', cap', HV.out, HK⟩
        case measure => have e1 : w4.iterPos w.heap.size = pos + wd := by simp only [World.iterPos, HK.out.1]
                        omega
    · have hnx : ∀ ty, (Instr.next (.pointer (some ⟨w.heap.size, 0, none⟩)) true ty).run Tryz.prog w1 = _ := fun ty => run_next_end_at w1 w.heap.size s pos ty HI.out.1 hp
      have HE : Hid (Z = acc) := by
        show Z = acc
        rw [HI.out.2.1, crs_end hp, List.map_nil, List.append_nil]
      have HF : Hid (w1.ownsRowF (w.heap.size + 1) 131 4 (.slice ao acc.length cap) acc.length (chCs acc) ∧ Below w.heap.size w w1) := ⟨HI.out.2.2.2.2.2.1, HI.out.2.2.2.2.2.2⟩
      clear HI
      go_wp2
      go_ret
      rw [show Z = acc from HE.out]
      exact ⟨_, rfl, ⟨⟨ao, cap, rfl⟩, owns_lower HF.out.1 (Nat.le_succ _)⟩, HF.out.2⟩
end Go.Proofs.YtapehdolnljnoaaGreatDoor
namespace Go.Proofs.YtapehdolnljnoaaGreatDoor
open Go.RowKit Go.Lib
set_option linter.unusedSimpArgs false
set_option linter.unusedVariables false
def badL : List Chr → Int
  | [] => -1
  | c :: l => if c.b = true then (c.a : Int) else badL l
theorem badL_st (s : ByteArray) : ∀ (l : List (Nat × Nat)), (∀ x ∈ l, x.1 < s.size) → badL (l.map (chr1 s)) = if stL s l < s.size then (stL s l : Int) else -1
  | [], _ => by simp [badL, stL]
  | (i, c) :: l, h => by
    have hi := h (i, c) (List.mem_cons_self ..)
    rw [List.map_cons, badL, stL]
    unfold chr1
    by_cases hb : c = 65533 ∧ preB (s.extract i s.size) rpB = false
    · rw [if_pos hb, if_pos rfl, if_pos hb, if_pos hi]
    · rw [if_neg hb, if_neg (by simp), if_neg hb]
      exact badL_st s l (fun x hx => h x (List.mem_cons_of_mem _ hx))
theorem crs_lt (s : ByteArray) : ∀ (b pos : Nat), ∀ x ∈ crs s b pos, x.1 < s.size
  | 0, pos, x, hx => by simp [crs] at hx
  | b + 1, pos, x, hx => by
    by_cases hp : pos < s.size
    · rw [show crs s (b + 1) pos = (pos, (Utf8.decode s pos).1) :: crs s b (pos + (Utf8.decode s pos).2) by simp [crs, hp]] at hx
      rcases List.mem_cons.1 hx with rfl | hx
      · exact hp
      · exact crs_lt s b _ x hx
    · rw [crs_end hp] at hx
      simp at hx
theorem crs_len (s : ByteArray) : ∀ (b pos : Nat), pos ≤ s.size → (crs s b pos).length ≤ s.size - pos
  | 0, pos, _ => by simp [crs]
  | b + 1, pos, h => by
    by_cases hp : pos < s.size
    · rw [show crs s (b + 1) pos = (pos, (Utf8.decode s pos).1) :: crs s b (pos + (Utf8.decode s pos).2) by simp [crs, hp], List.length_cons]
      have := wid_pos s pos hp
      have := decode_wd s pos hp
      have := crs_len s b (pos + (Utf8.decode s pos).2) (by omega)
      omega
    · rw [crs_end hp]
      simp
theorem chrL_len (s : ByteArray) : (chrL s).length ≤ s.size := by
  have := crs_len s s.size 0 (Nat.zero_le _)
  unfold chrL chs
  rw [List.length_map]
  omega
def badR (s : ByteArray) : Int := if stR s < s.size then (stR s : Int) else -1
theorem badR_eq (s : ByteArray) : badL (chrL s) = badR s := badL_st s _ (crs_lt s _ _)
theorem badL_drop {l : List Chr} {i : Nat} {t : Chr} (h : l[i]? = some t) : badL (l.drop i) = if t.b = true then (t.a : Int) else badL (l.drop (i + 1)) := by
  have hi := (List.getElem?_eq_some_iff.1 h).1
  have : l.drop i = t :: l.drop (i + 1) := by
    rw [← (List.getElem?_eq_some_iff.1 h).2]
    exact List.drop_eq_getElem_cons hi
  rw [this, badL]
theorem chr_only {w w' : World} {B : Nat} {v : Value} {l : List Chr} (h : ChrAt w B v l) (o : Only (fun _ => False) w w') : ChrAt w' B v l := ⟨h.1, owns_only h.2 o⟩
set_option maxRecDepth 100000 in
set_option maxHeartbeats 1000000 in
theorem bad_any (s : ByteArray) (hs : s.size ≤ 4000000) (w : World) : Calls Tryz.prog 54 #[.string s] w fun e w' => e = .returned (.int .i64 (badR s)) ∧ Only (fun _ => False) w w' := by
  have HC : Hid (Calls Tryz.prog 55 #[.string s] w fun e w' => ∃ v, e = .returned v ∧ Hid (ChrAt w' w.heap.size v (chrL s) ∧ Below w.heap.size w w')) := chars_any s hs w
  have hlen := chrL_len s
  rw [← badR_eq]
  obtain ⟨l, hl⟩ : ∃ l, l = chrL s := ⟨_, rfl⟩
  rw [← hl] at HC hlen ⊢
  clear hl
  obtain ⟨Z, hZ⟩ : ∃ Z, Z = badL l := ⟨_, rfl⟩
  have HZ : Hid (Z = badL l) := hZ
  rw [← hZ]
  clear hZ
  go_enter Tryz.func54, Tryz.ntmps54
  go_wp2_with fail
  refine (show Calls Tryz.prog 55 _ _ _ from HC.out).mono ?_
  rintro e w1 ⟨v, rfl, g⟩
  have O1 : Hid (Only (fun _ => False) w w1) := below_only g.out.2
  have T1 : Hid (ChrAt w1 w.heap.size v l) := g.out.1
  obtain ⟨ao, cap, rfl⟩ := g.out.1.1
  clear HC g
  go_wp2
  go_loopw [4] (fun r4 wr => ∃ k : Nat, k ≤ l.length ∧ r4 = .int .i64 (k : Int) ∧ wr = w1 ∧ Hid (Z = badL (l.drop k))) (fun r4 _ => l.length - uOf r4)
  case atStart => exact ⟨0, Nat.zero_le _, rfl, rfl, HZ.out⟩
  case round =>
    obtain ⟨k, hk, rfl, rfl, HI⟩ := hrel
    clear HZ
    by_cases hlt : k < l.length
    · obtain ⟨t, ht⟩ : ∃ t, t = l[k]'hlt := ⟨_, rfl⟩
      have ht2 : l[k]? = some t := by rw [ht]; exact List.getElem?_eq_getElem _
      obtain ⟨g, cap', hv, _, _, c0, c1, c2, c3⟩ := chr_cells T1.out ht2
      injection hv with hv1 hv2 hv3
      subst hv1
      have hd := badL_drop ht2
      obtain ⟨tr, ta, tz, tb⟩ := t
      dsimp only at c0 c1 c2 c3 hd
      have k0 : (0 : Int) ≤ (k : Int) := Int.natCast_nonneg _
      obtain ⟨L, hL⟩ : ∃ L, L = l.length := ⟨_, rfl⟩
      rw [← hL]
      have k1 : (k : Int) < (L : Int) := by omega
      cases tb with
      | true =>
        have HE : Hid (Z = (ta : Int)) := by
          show Z = _
          rw [HI.out, hd, if_pos rfl]
        clear HI hd ht ht2 T1 hL hlen hv2 hv3
        go_wp2
        go_ret
        exact ⟨by rw [show Z = _ from HE.out]; rfl, O1.out⟩
      | false =>
        have HE : Hid (Z = badL (l.drop (k + 1))) := by
          show Z = _
          rw [HI.out, hd, if_neg (by simp)]
        have HLL : Hid (L = l.length) := hL
        have hl4 : L ≤ 4000000 := by omega
        clear HI hd ht ht2 hL hlen hv2 hv3
        go_wp2
        go_roundw
        case rel => exact ⟨k + 1, by omega, by go_num, by simp, HE⟩
        case measure => simp only [uOf]; omega
    · have HE : Hid (Z = -1) := by
        show Z = _
        rw [HI.out, List.drop_eq_nil_of_le (by omega)]
        rfl
      have k1 : ¬ (k : Int) < (l.length : Int) := by omega
      clear HI
      go_wp2
      go_ret
      exact ⟨by rw [show Z = _ from HE.out]; rfl, O1.out⟩
end Go.Proofs.YtapehdolnljnoaaGreatDoor
