/- Tokens of texts that are put together. The tokens of a text of plain words with blanks between. The reader of a source in memory, and where it gives up: fault, must. The next token: next. What the next token is: is, reserved, named. Going on: take. Going on with what counts: count, enter. A bracket is opened: enter. -/
import Derived.Test.YtokponkokpdhiaaDoorGad
namespace Go.Proofs.YtokponkokpdhiaaDoor
open Go.RowKit Go.Lib
set_option linter.unusedSimpArgs false
set_option linter.unusedVariables false
/-- A token d places on. -/
def shT (d : Nat) (t : Tok) : Tok := ⟨t.k, t.t, t.n, t.a + (d : Int)⟩
def shR (d : Nat) (r : Tok × Nat × Int) : Tok × Nat × Int := (shT d r.1, r.2.1 + d, r.2.2)
/-- A string that is read is read the same with more behind it, and further on. -/
theorem strG_ext (a n m d : Nat) (y : List Nat) : ∀ (q : List Nat) (o : Nat) (e : Bool) (out : List Nat), (strG a n (pl o q) e out).2.2 = 0 → strG (a + d) m (pl o (q ++ y)) e out = shR d (strG a n (pl o q) e out)
  | [], o, true, out => by intro h; simp [pl, strG] at h
  | [], o, false, out => by intro h; simp [pl, strG] at h
  | c :: q, o, true, out => by
    rw [List.cons_append, pl, pl]
    simp only [strG]
    cases une c with
    | none => intro h; simp at h
    | some k => exact strG_ext a n m d y q _ _ _
  | c :: q, o, false, out => by
    rw [List.cons_append, pl, pl]
    simp only [strG]
    split
    · exact strG_ext a n m d y q _ _ _
    · split
      · split
        · intro h; simp at h
        · intro _
          simp only [shR, shT]
          congr 2
          omega
      · exact strG_ext a n m d y q _ _ _
/-- Where the string's end is. -/
theorem strG_end (a n : Nat) : ∀ (q : List Nat) (o : Nat) (e : Bool) (out : List Nat), (strG a n (pl o q) e out).2.2 = 0 → ∃ k q', q = k ++ q' ∧ k ≠ [] ∧ (strG a n (pl o q) e out).2.1 = a + 1 + o + wl k
  | [], o, true, out => by intro h; simp [pl, strG] at h
  | [], o, false, out => by intro h; simp [pl, strG] at h
  | c :: q, o, true, out => by
    rw [pl]
    simp only [strG]
    cases une c with
    | none => intro h; simp at h
    | some k =>
      intro h
      obtain ⟨k, q', e1, _, e2⟩ := strG_end a n q _ _ _ h
      exact ⟨c :: k, q', by rw [e1]; rfl, by simp, by rw [wl_cons]; simp only at e2 ⊢; omega⟩
  | c :: q, o, false, out => by
    rw [pl]
    simp only [strG]
    split
    · intro h
      obtain ⟨k, q', e1, _, e2⟩ := strG_end a n q _ _ _ h
      exact ⟨c :: k, q', by rw [e1]; rfl, by simp, by rw [wl_cons]; omega⟩
    · split
      · split
        · intro h; simp at h
        · intro _
          have h34 : c = 34 := by assumption
          subst h34
          exact ⟨[34], q, rfl, by simp, by show a + o + 2 = a + 1 + o + wl [34]; rw [show wl [34] = 1 from rfl]; omega⟩
      · intro h
        obtain ⟨k, q', e1, _, e2⟩ := strG_end a n q _ _ _ h
        exact ⟨c :: k, q', by rw [e1]; rfl, by simp, by rw [wl_cons]; omega⟩
theorem str_sfx {s : ByteArray} {q : List Nat} {a : Nat} (h : Sfx s (34 :: q) a) : strR s a = strG a s.size (pl 0 q) false [] := by
  have h1 : Sfx s q (a + 1) := h.tail
  unfold strR
  rw [h1.rest, crs_tx0 h1.vl]
theorem quote_sfx {s : ByteArray} {c : Nat} {q : List Nat} {a : Nat} (h : Sfx s (c :: q) a) : (byN s a = 34) ↔ c = 34 := by
  have := h.size
  rw [wl_cons] at this
  have := wr_pos c
  rw [quote_byte (by omega), h.decode]
/-- What a word is, by its characters. -/
def wrdL (w : List Nat) (a z : Nat) : Tok × Nat × Int :=
  if (numR (tx w)).2 = 0 then (⟨2, ⟨#[]⟩, (numR (tx w)).1, a⟩, z, 0)
  else if (numR (tx w)).2 = 11 then (⟨0, ⟨#[]⟩, 0, 0⟩, a, 11)
  else if nmdB (tx w) = false then (⟨0, ⟨#[]⟩, 0, 0⟩, a, 10)
  else (⟨1, tx w, 0, a⟩, z, 0)
theorem wrd_sfx {s : ByteArray} {q : List Nat} {a : Nat} (h : Sfx s q a) : wrdR s a = wrdL (q.takeWhile (fun c => !blk c)) a (a + wl (q.takeWhile (fun c => !blk c))) := by
  have h2 : Sfx s (q.takeWhile (fun c => !blk c) ++ q.dropWhile (fun c => !blk c)) a := by rw [← split_while]; exact h
  unfold wrdR wrdL
  dsimp only
  rw [fnd_sfx _ h, h2.extract]
theorem wrdL_sh (w : List Nat) (a z d : Nat) (h : (wrdL w a z).2.2 = 0) : wrdL w (a + d) (z + d) = shR d (wrdL w a z) := by
  unfold wrdL at h ⊢
  split
  · simp only [shR, shT]
    congr 2
  · rw [if_neg (by assumption)] at h
    split
    · rw [if_pos (by assumption)] at h
      exact absurd h (by simp)
    · rw [if_neg (by assumption)] at h
      split
      · rw [if_pos (by assumption)] at h
        exact absurd h (by simp)
      · simp only [shR, shT]
        congr 2
theorem wrdL_z (w : List Nat) (a z : Nat) (h : (wrdL w a z).2.2 = 0) : (wrdL w a z).2.1 = z := by
  unfold wrdL at h ⊢
  split
  · rfl
  · rw [if_neg (by assumption)] at h
    split
    · rw [if_pos (by assumption)] at h
      exact absurd h (by simp)
    · rw [if_neg (by assumption)] at h
      split
      · rw [if_pos (by assumption)] at h
        exact absurd h (by simp)
      · rfl
/-- A token that is read is read the same with a line's end behind the text, and further on. -/
theorem red_same {s S : ByteArray} {q y : List Nat} {a d : Nat} (hq : q ≠ []) (hy : Ynl y) (h : Sfx s q a) (g : Sfx S (q ++ y) (a + d)) (hz : (redR s a).2.2 = 0) : redR S (a + d) = shR d (redR s a) := by
  cases q with
  | nil => exact absurd rfl hq
  | cons c q =>
    have k1 := quote_sfx h
    have k2 := quote_sfx (show Sfx S (c :: (q ++ y)) (a + d) from g)
    unfold redR at hz ⊢
    by_cases hc : c = 34
    · subst hc
      rw [if_pos (k1.2 rfl)] at hz ⊢
      rw [if_pos (k2.2 rfl)]
      rw [str_sfx h] at hz ⊢
      rw [str_sfx (show Sfx S (34 :: (q ++ y)) (a + d) from g)]
      exact strG_ext a _ _ d y q 0 false [] hz
    · rw [if_neg (fun x => hc (k1.1 x))] at hz ⊢
      rw [if_neg (fun x => hc (k2.1 x))]
      rw [wrd_sfx h] at hz ⊢
      rw [wrd_sfx g, tw_nl _ rfl _ hy]
      have := wrdL_sh _ _ _ d hz
      rw [← this]
      congr 1
      omega
theorem red_sfx {s : ByteArray} {q : List Nat} {a : Nat} (hq : q ≠ []) (h : Sfx s q a) (hz : (redR s a).2.2 = 0) : ∃ m q', q = m ++ q' ∧ m ≠ [] ∧ (redR s a).2.1 = a + wl m := by
  cases q with
  | nil => exact absurd rfl hq
  | cons c q =>
    have k1 := quote_sfx h
    have ha : a < s.size := by have := h.size; rw [wl_cons] at this; have := wr_pos c; omega
    have hgo := red_go ha hz
    unfold redR at hz hgo ⊢
    by_cases hc : c = 34
    · subst hc
      rw [if_pos (k1.2 rfl)] at hz ⊢
      rw [str_sfx h] at hz ⊢
      obtain ⟨k, q', e1, _, e2⟩ := strG_end a s.size q 0 false [] hz
      exact ⟨34 :: k, q', by rw [e1]; rfl, by simp, by rw [e2, wl_cons, show wr 34 = 1 from rfl]; omega⟩
    · rw [if_neg (fun x => hc (k1.1 x))] at hz hgo ⊢
      rw [wrd_sfx h] at hz hgo ⊢
      rw [wrdL_z _ _ _ hz] at hgo ⊢
      refine ⟨_, _, split_while (fun c => !blk c) (c :: q), ?_, rfl⟩
      intro e
      rw [e, wl_nil] at hgo
      omega
theorem tokG_fuel (s : ByteArray) : ∀ (f g a : Nat) (acc : List Tok), s.size - a < f → s.size - a < g → tokG s f a acc = tokG s g a acc := by
  intro f
  induction f with
  | zero => intro g a acc h _; omega
  | succ f ih =>
    intro g a acc hf hg
    obtain ⟨g, rfl⟩ : ∃ k, g = k + 1 := ⟨g - 1, by omega⟩
    unfold tokG
    by_cases ha : a < s.size
    · rw [if_pos ha, if_pos ha]
      by_cases h0 : (redR s a).2.2 = 0
      · rw [if_pos h0, if_pos h0]
        have h1 := red_go ha h0
        have h2 := bg_bd h1.2
        split
        · rfl
        · exact ih _ _ _ (by omega) (by omega)
      · rw [if_neg h0, if_neg h0]
    · rw [if_neg ha, if_neg ha]
/-- The tokens from a place on. -/
def tokH (s : ByteArray) (a : Nat) (acc : List Tok) : List Tok × Nat × Int := tokG s (s.size + 1) a acc
theorem tokH_end {s : ByteArray} {a : Nat} (acc : List Tok) (h : ¬ a < s.size) : tokH s a acc = (acc, 0, 0) := by
  unfold tokH tokG
  rw [if_neg h]
theorem tokH_go {s : ByteArray} {a : Nat} {acc : List Tok} (h : a < s.size) (h0 : (redR s a).2.2 = 0) (h1 : acc.length ≠ 4096) : tokH s a acc = tokH s (bg s (redR s a).2.1) (acc ++ [(redR s a).1]) := by
  conv => lhs; unfold tokH; unfold tokG
  rw [if_pos h, if_pos h0, if_neg h1]
  have g1 := red_go h h0
  have g2 := bg_bd g1.2
  exact tokG_fuel s _ _ _ _ (by omega) (by omega)
theorem tokH_ok {s : ByteArray} {a : Nat} {acc : List Tok} (h : a < s.size) (hz : (tokH s a acc).2.2 = 0) : (redR s a).2.2 = 0 ∧ acc.length ≠ 4096 := by
  unfold tokH tokG at hz
  rw [if_pos h] at hz
  by_cases h0 : (redR s a).2.2 = 0
  · rw [if_pos h0] at hz
    refine ⟨h0, fun g => ?_⟩
    rw [if_pos g] at hz
    exact absurd hz (by simp)
  · rw [if_neg h0] at hz
    exact absurd hz h0
/-- The tokens of a text, with a line's end and more behind it, further on. -/
theorem tok_run {s S : ByteArray} {y : List Nat} {d : Nat} (hy : Ynl y) : ∀ (n : Nat) (q : List Nat) (a : Nat) (acc' : List Tok), q.length ≤ n → Sfx s q a → Sfx S (q ++ y) (a + d) → (tokH s (bg s a) acc').2.2 = 0 →
    ∃ R, (tokH s (bg s a) acc').1 = acc' ++ R ∧ ∀ acc : List Tok, acc.length + R.length ≤ 4096 → tokH S (bg S (a + d)) acc = tokH S (bg S (s.size + d)) (acc ++ R.map (shT d)) := by
  intro n
  induction n with
  | zero =>
    intro q a acc' hn h g hz
    obtain rfl : q = [] := List.eq_nil_of_length_eq_zero (by omega)
    have hb : Sfx s [] (bg s a) := bg_sfx h
    have hs := h.size
    have hbs := hb.size
    rw [wl_nil] at hs hbs
    refine ⟨[], by rw [tokH_end _ (by omega)]; simp, fun acc _ => ?_⟩
    rw [show s.size + d = a + d by omega]
    simp
  | succ n ih =>
    intro q a acc' hn h g hz
    have hb := bg_sfx h
    have gb := bg_sfx g
    rw [SK_ext y hy _ q (Nat.le_refl _)] at gb
    have hs := h.size
    have gs := g.size
    have hbs := hb.size
    have gy : Sfx S y (s.size + d) := by
      have := g.drop
      rwa [show a + d + wl q = s.size + d by omega] at this
    cases hr : SK q with
    | nil =>
      rw [hr, wl_nil] at hbs
      rw [hr, if_pos rfl] at gb
      refine ⟨[], by rw [tokH_end _ (by omega)]; simp, fun acc _ => ?_⟩
      rw [gb.pos (bg_sfx gy)]
      simp
    | cons c r =>
      rw [hr] at hb hbs
      rw [hr, if_neg (by simp)] at gb
      have gbs := gb.size
      have hw := wr_pos c
      rw [wl_cons] at hbs
      rw [wl_app, wl_cons] at gbs
      rw [wl_app] at gs
      have epos : bg S (a + d) = bg s a + d := by omega
      have hlt : bg s a < s.size := by omega
      obtain ⟨z1, z2⟩ := tokH_ok hlt hz
      rw [tokH_go hlt z1 z2] at hz ⊢
      rw [epos] at gb ⊢
      have hsame := red_same (by simp) hy hb gb z1
      obtain ⟨m, q', em, hm, hp⟩ := red_sfx (by simp) hb z1
      have hb' : Sfx s q' (redR s (bg s a)).2.1 := by rw [hp]; rw [em] at hb; exact hb.drop
      have gb' : Sfx S (q' ++ y) ((redR s (bg s a)).2.1 + d) := by
        rw [em, List.append_assoc] at gb
        have := gb.drop
        rw [hp]
        rwa [show bg s a + d + wl m = bg s a + wl m + d by omega] at this
      have hl : q'.length ≤ n := by
        have h1 := SK_len q
        rw [hr, em, List.length_append] at h1
        have := List.length_pos_iff.2 hm
        omega
      obtain ⟨R, e1, e2⟩ := ih q' _ _ hl hb' gb' hz
      refine ⟨(redR s (bg s a)).1 :: R, by rw [e1]; simp, fun acc hacc => ?_⟩
      rw [List.length_cons] at hacc
      have hz2 : (redR S (bg s a + d)).2.2 = 0 := by rw [hsame]; exact z1
      have hlt2 : bg s a + d < S.size := by omega
      rw [tokH_go hlt2 hz2 (by omega), hsame]
      show tokH S (bg S ((redR s (bg s a)).2.1 + d)) (acc ++ [shT d (redR s (bg s a)).1]) = _
      rw [e2 (acc ++ [shT d (redR s (bg s a)).1]) (by rw [List.length_append]; simp; omega)]
      simp
theorem stR_tx {l : List Nat} (h : VL l) : ¬ stR (tx l) < (tx l).size := by
  have key : ∀ (q : List Nat) (o : Nat), Sfx (tx l) q o → stL (tx l) (pl o q) = (tx l).size := by
    intro q
    induction q with
    | nil => intro o _; rfl
    | cons c q ih =>
      intro o ho
      rw [pl]
      unfold stL
      rw [if_neg]
      · exact ih _ ho.tail
      · rintro ⟨rfl, hp⟩
        rw [ho.rest] at hp
        have e : (tx (65533 :: q)).extract 0 3 = tx [65533] := by
          have : Sfx (tx (65533 :: q)) ([65533] ++ q) 0 := sfx_all ho.vl
          have := this.extract
          rwa [show 0 + wl [65533] = 3 from rfl] at this
        unfold preB at hp
        rw [show rpB.size = 3 from rfl, e, show tx [65533] = rpB from rfl] at hp
        have hz : 3 ≤ (tx (65533 :: q)).size := by rw [tx_size, wl_cons, show wr 65533 = 3 from rfl]; omega
        rw [decide_eq_true hz] at hp
        simp at hp
  unfold stR
  rw [crs_tx0 h, key l 0 (sfx_all h)]
  omega
theorem tokR_h {s : ByteArray} (h0 : s.size ≤ 65536) (h1 : ¬ stR s < s.size) : tokR s = tokH s (bg s 0) [] := by
  unfold tokR
  rw [if_neg (by omega), if_neg h1]
  rfl
theorem tokR_ok {s : ByteArray} (h : (tokR s).2.2 = 0) : s.size ≤ 65536 ∧ ∃ l, VL l ∧ s = tx l := by
  have h0 := tokR_size h
  refine ⟨h0, valid_tx fun g => ?_⟩
  unfold tokR at h
  rw [if_neg (by omega), if_pos g] at h
  exact absurd h (by simp)
theorem tokR_place {s : ByteArray} (h : (tokR s).2.2 = 0) : (tokR s).2.1 = 0 := by
  have key : ∀ (f a : Nat) (acc : List Tok), (tokG s f a acc).2.2 = 0 → (tokG s f a acc).2.1 = 0 := by
    intro f
    induction f with
    | zero => intro a acc _; rfl
    | succ f ih =>
      intro a acc
      unfold tokG
      split
      · split
        · split
          · intro h; simp at h
          · exact ih _ _
        · intro h; exact absurd h (by assumption)
      · intro _; rfl
  unfold tokR at h ⊢
  split
  · rfl
  · rw [if_neg (by assumption)] at h
    split
    · rw [if_pos (by assumption)] at h
      exact absurd h (by simp)
    · rw [if_neg (by assumption)] at h
      exact key _ _ _ h
/-- The tokens of a text behind which more stands on a new line. -/
theorem tok_more {s : ByteArray} {l x : List Nat} (hl : VL l) (hx : VL x) (hs : s = tx l) (h : (tokR s).2.2 = 0) (hz : s.size + 1 + wl x ≤ 65536) :
    tokR (tx (l ++ 10 :: x)) = tokH (tx (l ++ 10 :: x)) (bg (tx (l ++ 10 :: x)) (s.size + 1)) (tokR s).1 := by
  have hv : VL (l ++ 10 :: x) := by
    intro c hc
    rcases List.mem_append.1 hc with hc | hc
    · exact hl c hc
    · rcases List.mem_cons.1 hc with rfl | hc
      · exact .inl (by decide)
      · exact hx c hc
  have h0 := tokR_size h
  subst hs
  have e1 : tokR (tx l) = tokH (tx l) (bg (tx l) 0) [] := tokR_h h0 (stR_tx hl)
  have hsz : (tx (l ++ 10 :: x)).size = (tx l).size + 1 + wl x := by rw [tx_size, tx_size, wl_app, wl_cons, show wr 10 = 1 from rfl]; omega
  rw [tokR_h (by omega) (stR_tx hv)]
  have hlen := tokR_len (tx l)
  rw [e1] at h hlen ⊢
  obtain ⟨R, r1, r2⟩ := tok_run (d := 0) (.inr ⟨x, rfl⟩) l.length l 0 [] (Nat.le_refl _) (sfx_all hl) (sfx_all hv) h
  rw [List.nil_append] at r1
  have h00 : ∀ t : Tok, shT 0 t = t := fun t => by cases t; simp [shT]
  have := r2 [] (by rw [r1] at hlen; simpa using hlen)
  rw [Nat.add_zero, Nat.add_zero, List.nil_append, List.map_congr_left (fun t _ => h00 t), List.map_id'] at this
  rw [this, r1]
  have gy : Sfx (tx (l ++ 10 :: x)) (10 :: x) (tx l).size := by
    have := (sfx_all hv).drop
    rwa [Nat.zero_add, ← tx_size] at this
  have gx := gy.tail
  rw [show wr 10 = 1 from rfl] at gx
  have p1 := bg_sfx gy
  rw [SK_ten] at p1
  rw [p1.pos (bg_sfx gx)]
end Go.Proofs.YtokponkokpdhiaaDoor
namespace Go.Proofs.YtokponkokpdhiaaDoor
open Go.RowKit
set_option linter.unusedSimpArgs false
set_option linter.unusedVariables false
/-- a plain word -/
structure Gd (m : List Nat) : Prop where
  ne : m ≠ []
  nb : ∀ c ∈ m, blk c = false
  vr : VL m
  h34 : m.head? ≠ some 34
  h33 : m.head? ≠ some 33
  wd : ∀ a z, wrdL m a z = (⟨1, tx m, 0, a⟩, z, 0)
/-- words, each with a blank behind it -/
def wtx (ws : List (List Nat)) : List Nat := ws.flatMap fun m => m ++ [32]
/-- their tokens, the first at place a -/
def wtk : Nat → List (List Nat) → List Tok
  | _, [] => []
  | a, m :: ws => ⟨1, tx m, 0, a⟩ :: wtk (a + wl m + 1) ws
theorem wtx_cons (m : List Nat) (ws : List (List Nat)) : wtx (m :: ws) = m ++ 32 :: wtx ws := by simp [wtx]
theorem wtx_app (a b : List (List Nat)) : wtx (a ++ b) = wtx a ++ wtx b := by simp [wtx]
theorem Gd.sk {m : List Nat} (h : Gd m) (q : List Nat) : SK (m ++ q) = m ++ q := by
  obtain ⟨c, m', rfl⟩ : ∃ c m', m = c :: m' := by
    cases m with
    | nil => exact absurd rfl h.ne
    | cons c m' => exact ⟨c, m', rfl⟩
  have hc := h.nb c (by simp)
  have h3 := h.h33
  simp only [List.head?_cons, ne_eq, Option.some.injEq] at h3
  rw [SK_eq]
  simp [List.dropWhile_cons, hc, rmL, h3]
theorem Gd.tw {m : List Nat} (h : Gd m) (q : List Nat) (hq : q = [] ∨ ∃ x, q = 32 :: x) : (m ++ q).takeWhile (fun c => !blk c) = m := by
  have : ∀ c ∈ m, (!blk c) = true := fun c hc => by simp [h.nb c hc]
  rw [List.takeWhile_append_of_pos this]
  rcases hq with rfl | ⟨x, rfl⟩
  · simp
  · simp [List.takeWhile_cons, blk]
theorem Gd.read {m : List Nat} (h : Gd m) {s : ByteArray} {q : List Nat} {a : Nat} (hq : q = [] ∨ ∃ x, q = 32 :: x) (hs : Sfx s (m ++ q) a) : redR s a = (⟨1, tx m, 0, a⟩, a + wl m, 0) := by
  have hw : wrdR s a = (⟨1, tx m, 0, a⟩, a + wl m, 0) := by rw [wrd_sfx hs, h.tw q hq, h.wd]
  obtain ⟨c, m', rfl⟩ : ∃ c m', m = c :: m' := by
    cases m with
    | nil => exact absurd rfl h.ne
    | cons c m' => exact ⟨c, m', rfl⟩
  have h3 := h.h34
  simp only [List.head?_cons, ne_eq, Option.some.injEq] at h3
  unfold redR
  rw [if_neg (by rw [quote_sfx (show Sfx s (c :: (m' ++ q)) a from hs)]; exact h3), hw]
theorem Gd.bg {m : List Nat} (h : Gd m) {s : ByteArray} {q : List Nat} {a : Nat} (hs : Sfx s (m ++ q) a) : bg s a = a := by
  have := bg_sfx hs
  rw [h.sk] at this
  exact this.pos hs
theorem sk_32 (q : List Nat) : SK (32 :: q) = SK q := SK_blank [32] q rfl
theorem wr_32 : wr 32 = 1 := by unfold wr; rw [enc1 (by omega)]; rfl
theorem bg_32 {s : ByteArray} {q : List Nat} {a : Nat} (hs : Sfx s (32 :: q) a) : bg s a = bg s (a + 1) := by
  have h1 := bg_sfx hs
  rw [sk_32] at h1
  have h2 := bg_sfx hs.tail
  rw [wr_32] at h2
  exact h1.pos h2
theorem Gd.wl {m : List Nat} (h : Gd m) : 0 < wl m := by
  have := wl_len m
  have : 0 < m.length := List.length_pos_iff.2 h.ne
  omega
/-- what is at the end: nothing, or a word -/
def lst (a : Nat) (e : List Nat) : List Tok := if e = [] then [] else [⟨1, tx e, 0, a⟩]
theorem tok_words {s : ByteArray} {e : List Nat} (he : e = [] ∨ Gd e) : ∀ (ws : List (List Nat)) (a : Nat) (acc : List Tok), (∀ m ∈ ws, Gd m) → Sfx s (wtx ws ++ e) a → acc.length + ws.length < 4096 → tokH s (bg s a) acc = (acc ++ wtk a ws ++ lst (a + Go.Proofs.YtokponkokpdhiaaDoor.wl (wtx ws)) e, 0, 0)
  | [], a, acc, _, hs, hl => by
    simp only [wtx, List.flatMap_nil, List.nil_append, wl_nil, Nat.add_zero, wtk, List.append_nil] at hs ⊢
    have hz := hs.size
    rcases he with rfl | he
    · have h1 := bg_sfx hs
      rw [SK_nil] at h1
      have h2 : bg s a = a := h1.pos hs
      rw [h2, tokH_end _ (by rw [wl_nil] at hz; omega)]
      simp [lst]
    · have h0 : Sfx s (e ++ []) a := by simpa using hs
      have hp := he.wl
      have hr := he.read (.inl rfl) h0
      rw [he.bg h0, tokH_go (by omega) (by rw [hr]) (by simp at hl; omega), hr]
      have h1 : Sfx s [] (a + Go.Proofs.YtokponkokpdhiaaDoor.wl e) := h0.drop
      have h3 := bg_sfx h1
      rw [SK_nil] at h3
      have h2 := h3.pos h1
      dsimp only
      rw [h2, tokH_end _ (by omega)]
      simp [lst, he.ne]
  | m :: ws, a, acc, hw, hs, hl => by
    have hm := hw m (by simp)
    have hz := hs.size
    rw [wtx_cons, List.append_assoc, List.cons_append] at hs
    have hp := hm.wl
    have hr := hm.read (.inr ⟨_, rfl⟩) hs
    have h1 : Sfx s (32 :: (wtx ws ++ e)) (a + Go.Proofs.YtokponkokpdhiaaDoor.wl m) := hs.drop
    have h2 := h1.tail
    rw [wr_32] at h2
    have hz2 := hs.size
    rw [wl_app] at hz2
    simp only [List.length_cons] at hl
    rw [hm.bg hs, tokH_go (by omega) (by rw [hr]) (by omega), hr]
    dsimp only
    rw [bg_32 h1, tok_words he ws _ _ (fun x hx => hw x (by simp [hx])) h2 (by simp; omega)]
    have e1 : a + Go.Proofs.YtokponkokpdhiaaDoor.wl m + 1 + Go.Proofs.YtokponkokpdhiaaDoor.wl (wtx ws) = a + Go.Proofs.YtokponkokpdhiaaDoor.wl (wtx (m :: ws)) := by
      rw [wtx_cons, wl_app, wl_cons, wr_32]
      omega
    rw [e1]
    simp [wtk]
theorem wtx_vl : ∀ (ws : List (List Nat)), (∀ m ∈ ws, Gd m) → VL (wtx ws)
  | [], _ => by intro c hc; simp [wtx] at hc
  | m :: ws, h => by
    rw [wtx_cons]
    intro c hc
    simp only [List.mem_append, List.mem_cons] at hc
    rcases hc with hc | rfl | hc
    · exact (h m (by simp)).vr c hc
    · show Vr 32
      unfold Vr
      omega
    · exact wtx_vl ws (fun x hx => h x (by simp [hx])) c hc
/-- the tokens of such a text -/
theorem tokR_words {ws : List (List Nat)} {e : List Nat} (hw : ∀ m ∈ ws, Gd m) (he : e = [] ∨ Gd e) (hn : ws.length < 4096) (hz : Go.Proofs.YtokponkokpdhiaaDoor.wl (wtx ws ++ e) ≤ 65536) : tokR (tx (wtx ws ++ e)) = (wtk 0 ws ++ lst (Go.Proofs.YtokponkokpdhiaaDoor.wl (wtx ws)) e, 0, 0) := by
  have hv : VL (wtx ws ++ e) := by
    intro c hc
    simp only [List.mem_append] at hc
    rcases hc with hc | hc
    · exact wtx_vl ws hw c hc
    · rcases he with rfl | he
      · simp at hc
      · exact he.vr c hc
  rw [tokR_h (by rw [tx_size]; exact hz) (stR_tx hv), tok_words he ws 0 [] hw (sfx_all hv) (by simp; omega)]
  simp
theorem wtk_len : ∀ (a : Nat) (ws : List (List Nat)), (wtk a ws).length = ws.length
  | _, [] => rfl
  | a, m :: ws => by simp [wtk, wtk_len]
theorem wtk_app : ∀ (a : Nat) (x y : List (List Nat)), wtk a (x ++ y) = wtk a x ++ wtk (a + Go.Proofs.YtokponkokpdhiaaDoor.wl (wtx x)) y
  | a, [], y => by simp [wtk, wtx, wl_nil]
  | a, m :: x, y => by
    simp only [List.cons_append, wtk, List.cons.injEq, true_and]
    rw [wtk_app]
    congr 2
    rw [wtx_cons, wl_app, wl_cons, wr_32]
    omega
/-- the words of brackets and definitions are plain -/
theorem gd_one {c : Nat} (h1 : blk c = false) (h2 : c ≤ 127) (h3 : c ≠ 34) (h4 : c ≠ 33) (h5 : (numR (tx [c])).2 = 9) (h6 : nmdB (tx [c]) = true) : Gd [c] where
  ne := by simp
  nb := by simpa using h1
  vr := by
    intro x hx
    simp at hx
    subst hx
    unfold Vr
    omega
  h34 := by simpa using h3
  h33 := by simpa using h4
  wd := by
    intro a z
    unfold wrdL
    rw [if_neg (by rw [h5]; omega), if_neg (by rw [h5]; omega), if_neg (by rw [h6]; simp)]
theorem gd_open : Gd [91] := gd_one rfl (by omega) (by omega) (by omega) (by kernel_rfl) (by kernel_rfl)
theorem gd_shut : Gd [93] := gd_one rfl (by omega) (by omega) (by omega) (by kernel_rfl) (by kernel_rfl)
theorem gd_openL : Gd [123] := gd_one rfl (by omega) (by omega) (by omega) (by kernel_rfl) (by kernel_rfl)
theorem gd_shutL : Gd [125] := gd_one rfl (by omega) (by omega) (by omega) (by kernel_rfl) (by kernel_rfl)
theorem gd_colon : Gd [58] := gd_one rfl (by omega) (by omega) (by omega) (by kernel_rfl) (by kernel_rfl)
theorem gd_semi : Gd [59] := gd_one rfl (by omega) (by omega) (by omega) (by kernel_rfl) (by kernel_rfl)
theorem gd_x : Gd [120] := gd_one rfl (by omega) (by omega) (by omega) (by kernel_rfl) (by kernel_rfl)
theorem gd_in : Gd [40] := gd_one rfl (by omega) (by omega) (by omega) (by kernel_rfl) (by kernel_rfl)
theorem gd_out : Gd [41] := gd_one rfl (by omega) (by omega) (by omega) (by kernel_rfl) (by kernel_rfl)
theorem gd_mid : Gd [45, 45] where
  ne := by simp
  nb := by simp [blk]
  vr := by
    intro x hx
    simp at hx
    subst hx
    unfold Vr
    omega
  h34 := by simp
  h33 := by simp
  wd := by
    have h5 : (numR (tx [45, 45])).2 = 9 := by kernel_rfl
    have h6 : nmdB (tx [45, 45]) = true := by kernel_rfl
    intro a z
    unfold wrdL
    rw [if_neg (by rw [h5]; omega), if_neg (by rw [h5]; omega), if_neg (by rw [h6]; simp)]
end Go.Proofs.YtokponkokpdhiaaDoor
namespace Go.Proofs.YtokponkokpdhiaaDoor
open Go.RowKit
set_option linter.unusedSimpArgs false
set_option linter.unusedVariables false
/-- the tokens q lie behind the slice v, in a block ahead of R -/
def TkR (w : World) (R : Nat) (v : Value) (q : List Tok) : Prop :=
  ∃ ao cap, v = .slice ao q.length cap ∧ q.length ≤ cap ∧ ∀ i t, q[i]? = some t → ∃ g k, ao = some ⟨g, k, none⟩ ∧ g < R ∧ w.cell? ⟨g, k + i * 4, none⟩ = some (.int .i64 t.k) ∧ w.cell? ⟨g, k + i * 4 + 1, none⟩ = some (.string t.t) ∧ w.cell? ⟨g, k + i * 4 + 2, none⟩ = some (.int .i64 t.n) ∧ w.cell? ⟨g, k + i * 4 + 3, none⟩ = some (.int .i64 t.a)
/-- a reader at block R: the tokens that are left, the source's length, the brackets that are open, the size so far -/
def RdAt (w : World) (R : Nat) (q : List Tok) (n o z : Int) : Prop :=
  ∃ v, w.heap[R]? = some (.cells #[v, .int .i64 n, .int .i64 o, .int .i64 z] 89) ∧ TkR w R v q
theorem alloc_cell (w : World) (a : Addr) (x : Obj) (u : Value) (g : w.cell? a = some u) : (w.alloc x).cell? a = some u := by
  rw [World.cell?_alloc_old, g]
  intro e
  have : w.heap[a.block]? = none := by rw [e]; simp
  simp [World.cell?, this] at g
theorem results_flt {fn : Func} {u : Tmp} (h : fn.results = #[.cell u 86]) (tmps : Array Value) (w : World) (B : Nat) {x y : Value} (h0 : w.cell? ⟨B, 0, none⟩ = some x) (h1 : w.cell? ⟨B, 1, none⟩ = some y) (ha : tmps.getD u undef = .pointer (some ⟨B, 0, none⟩)) :
    (results fn tmps).run Tryd.prog w = .ok (.agg #[x, y]) w := by
  have ha' : tmps[u]?.getD undef = .pointer (some ⟨B, 0, none⟩) := by simpa using ha
  simp [results, h, ha', asAddr, go_sem, loadVar, isAgg, Tryd.underlying86, h0, h1]
/-- where a reader gives up -/
def flt (q : List Tok) (n : Int) : Int := match q with | [] => n | t :: _ => t.a
set_option maxRecDepth 100000 in
theorem fault_any (R : Nat) (q : List Tok) (n o z e : Int) (w : World) (h : RdAt w R q n o z) :
    Calls Tryd.prog 59 #[.pointer (some ⟨R, 0, none⟩), .int .i64 e] w fun x w' => x = .returned (.agg #[.int .i64 (flt q n), .int .i64 e]) ∧ Only (fun _ => False) w w' := by
  obtain ⟨v, hR, ao, cap, rfl, hcap, hq⟩ := h
  clear hcap
  have hA : ∀ (a : Addr) (u : Value), w.cell? a = some u → ∀ x, (w.alloc x).cell? a = some u := fun a u g x => (alloc_cell w a x u g)
  have k0 := hA _ _ (show w.cell? ⟨R, 0, none⟩ = some (.slice ao q.length cap) by simp [World.cell?, hR])
  have k1 := hA _ _ (show w.cell? ⟨R, 1, none⟩ = some (.int .i64 n) by simp [World.cell?, hR])
  have O0 : Hid (Only (fun _ => False) w w) := Only.refl _ _
  cases q with
  | nil =>
    clear hR hq hA
    simp only [flt, List.length_nil] at k0 ⊢
    go_enter Tryd.func59, Tryd.ntmps59
    go_wp2
    refine bodyPost_ret (results_flt (u := 4) rfl _ _ w.heap.size (x := _) (y := _) ?_ ?_ rfl) rfl ⟨rfl, O0.out.alloc _⟩
    · simp [go_sem]
    · simp [go_sem]
  | cons t q =>
    obtain ⟨g, k, rfl, hgR, c0, c1, c2, c3⟩ := hq 0 t rfl
    clear hgR
    simp only [flt, Nat.zero_mul, Nat.add_zero] at c3 ⊢
    have k3 := hA _ _ c3
    clear hR hq hA c0 c1 c2 c3
    obtain ⟨L, hL⟩ : ∃ L, L = (t :: q).length := ⟨_, rfl⟩
    have hL1 : 0 < L := by subst hL; simp
    rw [← hL] at k0
    clear hL
    have i1 : ¬ (L : Int) = 0 := by omega
    have i2 : (0 : Int) < (L : Int) := by omega
    go_enter Tryd.func59, Tryd.ntmps59
    go_wp2
    refine bodyPost_ret (results_flt (u := 4) rfl _ _ w.heap.size (x := _) (y := _) ?_ ?_ rfl) rfl ⟨rfl, O0.out.alloc _⟩
    · simp [go_sem]
    · simp [go_sem]
/-- how a reader gives up -/
def gup (a e : Int) : Ending := .panicked [{ v := .iface 86 (.agg #[.int .i64 a, .int .i64 e]), recovered := false }]
set_option maxRecDepth 100000 in
theorem must_true (R : Nat) (w : World) :
    Calls Tryd.prog 53 #[.pointer (some ⟨R, 0, none⟩), .bool true] w fun x w' => x = .returned (.tuple #[]) ∧ w' = w := by
  go_enter Tryd.func53, Tryd.ntmps53
  go_wp2
  go_end0
  exact ⟨rfl, rfl⟩
set_option maxRecDepth 100000 in
theorem must_false (R : Nat) (q : List Tok) (n o z : Int) (w : World) (h : RdAt w R q n o z) :
    Calls Tryd.prog 53 #[.pointer (some ⟨R, 0, none⟩), .bool false] w fun x w' => x = gup (flt q n) 9 ∧ Only (fun _ => False) w w' := by
  have HF : Hid (Calls Tryd.prog 59 #[.pointer (some ⟨R, 0, none⟩), .int .i64 9] w fun x w' => x = .returned (.agg #[.int .i64 (flt q n), .int .i64 9]) ∧ Only (fun _ => False) w w') := fault_any R q n o z 9 w h
  go_enter Tryd.func53, Tryd.ntmps53
  go_wp2_with fail
  refine (show Calls Tryd.prog 59 _ _ _ from HF.out).mono ?_
  rintro e w1 ⟨rfl, o1⟩
  have O1 : Hid (Only (fun _ => False) w w1) := o1
  clear HF o1
  go_wp2
  exact ⟨rfl, rfl, O1.out⟩
end Go.Proofs.YtokponkokpdhiaaDoor
namespace Go.Proofs.YtokponkokpdhiaaDoor
open Go.RowKit
set_option linter.unusedSimpArgs false
set_option linter.unusedVariables false
theorem TkR.only {w w' : World} {R : Nat} {v : Value} {q : List Tok} (h : TkR w R v q) (o : Only (fun _ => False) w w') : TkR w' R v q := by
  obtain ⟨ao, cap, hv, hcap, hq⟩ := h
  refine ⟨ao, cap, hv, hcap, fun i t ht => ?_⟩
  obtain ⟨g, k, ha, hg, c0, c1, c2, c3⟩ := hq i t ht
  exact ⟨g, k, ha, hg, o.cell c0 (fun h => h), o.cell c1 (fun h => h), o.cell c2 (fun h => h), o.cell c3 (fun h => h)⟩
theorem RdAt.only {w w' : World} {R : Nat} {q : List Tok} {n m z : Int} (h : RdAt w R q n m z) (o : Only (fun _ => False) w w') : RdAt w' R q n m z := by
  obtain ⟨v, hR, hq⟩ := h
  exact ⟨v, (o.block R (Array.getElem?_eq_some_iff.1 hR).1 (fun h => h)).trans hR, hq.only o⟩
theorem results_tk {fn : Func} {u : Tmp} (h : fn.results = #[.cell u 67]) (tmps : Array Value) (w : World) (B : Nat) {x y z r : Value} (h0 : w.cell? ⟨B, 0, none⟩ = some x) (h1 : w.cell? ⟨B, 1, none⟩ = some y) (h2 : w.cell? ⟨B, 2, none⟩ = some z) (h3 : w.cell? ⟨B, 3, none⟩ = some r) (ha : tmps.getD u undef = .pointer (some ⟨B, 0, none⟩)) :
    (results fn tmps).run Tryd.prog w = .ok (.agg #[x, y, z, r]) w := by
  have ha' : tmps[u]?.getD undef = .pointer (some ⟨B, 0, none⟩) := by simpa using ha
  simp [results, h, ha', asAddr, go_sem, loadVar, isAgg, Tryd.underlying67, h0, h1, h2, h3]
set_option maxRecDepth 100000 in
theorem next_nil (R : Nat) (n o z : Int) (w : World) (h : RdAt w R [] n o z) :
    Calls Tryd.prog 51 #[.pointer (some ⟨R, 0, none⟩)] w fun x w' => x = gup n 9 ∧ Only (fun _ => False) w w' := by
  have HM : Hid (∀ w1, Only (fun _ => False) w w1 → Calls Tryd.prog 53 #[.pointer (some ⟨R, 0, none⟩), .bool false] w1 fun x w' => x = gup n 9 ∧ Only (fun _ => False) w1 w') := fun w1 o1 => must_false R [] n o z w1 (h.only o1)
  obtain ⟨v, hR, ao, cap, rfl, hcap, hq⟩ := h
  clear hcap
  have k0 : ∀ x, (w.alloc x).cell? ⟨R, 0, none⟩ = some (.slice ao 0 cap) := fun x => alloc_cell w _ x _ (by simp [World.cell?, hR])
  have O0 : Hid (Only (fun _ => False) w w) := Only.refl _ _
  clear hR hq
  go_enter Tryd.func51, Tryd.ntmps51
  go_wp2_with fail
  refine (show Calls Tryd.prog 53 _ _ _ from HM.out _ (O0.out.alloc _)).mono ?_
  rintro e w1 ⟨rfl, o1⟩
  have O1 : Hid (Only (fun _ => False) w w1) := (O0.out.alloc _).trans o1 (fun _ _ g => g)
  clear HM o1
  unfold gup
  go_wp2
  exact ⟨rfl, rfl, O1.out⟩
set_option maxRecDepth 100000 in
theorem next_cons (R : Nat) (t : Tok) (q : List Tok) (n o z : Int) (w : World) (h : RdAt w R (t :: q) n o z) :
    Calls Tryd.prog 51 #[.pointer (some ⟨R, 0, none⟩)] w fun x w' => x = .returned t.v ∧ Only (fun _ => False) w w' := by
  have HM : Hid (∀ w1, Calls Tryd.prog 53 #[.pointer (some ⟨R, 0, none⟩), .bool true] w1 fun x w' => x = .returned (.tuple #[]) ∧ w' = w1) := fun w1 => must_true R w1
  obtain ⟨v, hR, ao, cap, rfl, hcap, hq⟩ := h
  clear hcap
  have k0 : ∀ x, (w.alloc x).cell? ⟨R, 0, none⟩ = some (.slice ao (t :: q).length cap) := fun x => alloc_cell w _ x _ (by simp [World.cell?, hR])
  obtain ⟨g, k, rfl, hgR, c0, c1, c2, c3⟩ := hq 0 t rfl
  clear hgR
  simp only [Nat.zero_mul, Nat.add_zero] at c0 c1 c2 c3
  have d0 := fun x => alloc_cell w _ x _ c0
  have d1 := fun x => alloc_cell w _ x _ c1
  have d2 := fun x => alloc_cell w _ x _ c2
  have d3 := fun x => alloc_cell w _ x _ c3
  clear hR hq c0 c1 c2 c3
  obtain ⟨L, hL⟩ : ∃ L, L = (t :: q).length := ⟨_, rfl⟩
  have hL1 : 0 < L := by subst hL; simp
  rw [← hL] at k0
  clear hL
  have i3 : (0 : Int) < (L : Int) := by omega
  have O0 : Hid (Only (fun _ => False) w w) := Only.refl _ _
  obtain ⟨tk, tt, tn, ta⟩ := t
  simp only [Tok.v] at d0 d1 d2 d3 ⊢
  go_enter Tryd.func51, Tryd.ntmps51
  go_wp2_with fail
  refine (show Calls Tryd.prog 53 _ _ _ from HM.out _).mono ?_
  rintro e w1 ⟨rfl, rfl⟩
  clear HM
  go_wp2
  refine bodyPost_ret (results_tk rfl _ _ w.heap.size (x := _) (y := _) (z := _) (r := _) ?_ ?_ ?_ ?_ rfl) rfl ⟨rfl, O0.out.alloc _⟩
  · simp [go_sem]
  · simp [go_sem]
  · simp [go_sem]
  · simp [go_sem]
end Go.Proofs.YtokponkokpdhiaaDoor
namespace Go.Proofs.YtokponkokpdhiaaDoor
open Go.RowKit
set_option linter.unusedSimpArgs false
set_option linter.unusedVariables false
set_option maxRecDepth 100000 in
theorem is_nil (R : Nat) (n o z : Int) (s : ByteArray) (w : World) (h : RdAt w R [] n o z) :
    Calls Tryd.prog 35 #[.pointer (some ⟨R, 0, none⟩), .string s] w fun x w' => x = gup n 9 ∧ Only (fun _ => False) w w' := by
  have HM : Hid (∀ w1, Only (fun _ => False) w w1 → Calls Tryd.prog 51 #[.pointer (some ⟨R, 0, none⟩)] w1 fun x w' => x = gup n 9 ∧ Only (fun _ => False) w1 w') := fun w1 o1 => next_nil R n o z w1 (h.only o1)
  have O0 : Hid (Only (fun _ => False) w w) := Only.refl _ _
  clear h
  go_enter Tryd.func35, Tryd.ntmps35
  go_wp2_with fail
  refine (show Calls Tryd.prog 51 _ _ _ from HM.out _ O0.out).mono ?_
  rintro e w1 ⟨rfl, o1⟩
  have O1 : Hid (Only (fun _ => False) w w1) := O0.out.trans o1 (fun _ _ g => g)
  clear HM o1
  unfold gup
  go_wp2
  exact ⟨rfl, rfl, O1.out⟩
def isB (t : Tok) (s : ByteArray) : Bool := (t.k == 1) && (t.t.toList == s.toList)
set_option maxRecDepth 100000 in
theorem is_cons (R : Nat) (t : Tok) (q : List Tok) (n o z : Int) (s : ByteArray) (w : World) (h : RdAt w R (t :: q) n o z) :
    Calls Tryd.prog 35 #[.pointer (some ⟨R, 0, none⟩), .string s] w fun x w' => x = .returned (.bool (isB t s)) ∧ Only (fun _ => False) w w' := by
  have HM : Hid (∀ w1, Only (fun _ => False) w w1 → Calls Tryd.prog 51 #[.pointer (some ⟨R, 0, none⟩)] w1 fun x w' => x = .returned t.v ∧ Only (fun _ => False) w1 w') := fun w1 o1 => next_cons R t q n o z w1 (h.only o1)
  have O0 : Hid (Only (fun _ => False) w w) := Only.refl _ _
  clear h
  obtain ⟨tk, tt, tn, ta⟩ := t
  simp only [Tok.v, isB] at HM ⊢
  go_enter Tryd.func35, Tryd.ntmps35
  go_wp2_with fail
  refine (show Calls Tryd.prog 51 _ _ _ from HM.out _ O0.out).mono ?_
  rintro e w1 ⟨rfl, o1⟩
  have O1 : Hid (Only (fun _ => False) w w1) := O0.out.trans o1 (fun _ _ g => g)
  clear HM o1
  go_wp2
  · go_ret
    exact ⟨by simp [*], O1.out.alloc _⟩
  · go_ret
    exact ⟨by simp [*], O1.out.alloc _⟩
/-- the reserved words -/
def resB (s : ByteArray) : Bool := s.toList == [58] || s.toList == [59] || s.toList == [40] || s.toList == [45, 45] || s.toList == [41] || s.toList == [91] || s.toList == [93] || s.toList == [123] || s.toList == [125] || s.toList == [116] || s.toList == [102]
set_option maxRecDepth 100000 in
theorem reserved_any (s : ByteArray) (w : World) :
    Calls Tryd.prog 58 #[.string s] w fun x w' => x = .returned (.bool (resB s)) ∧ w' = w := by
  go_enter Tryd.func58, Tryd.ntmps58
  go_wp2
  all_goals
    go_ret
    refine ⟨?_, rfl⟩
    first
      | (exfalso; simp_all; done)
      | (unfold resB; simp only [*, Bool.or_true, Bool.or_false, Bool.true_or, Bool.false_or]; done)
      | (unfold resB; simp_all; done)
set_option maxRecDepth 100000 in
theorem named_nil (R : Nat) (n o z : Int) (w : World) (h : RdAt w R [] n o z) :
    Calls Tryd.prog 45 #[.pointer (some ⟨R, 0, none⟩)] w fun x w' => x = gup n 9 ∧ Only (fun _ => False) w w' := by
  have HM : Hid (Calls Tryd.prog 51 #[.pointer (some ⟨R, 0, none⟩)] w fun x w' => x = gup n 9 ∧ Only (fun _ => False) w w') := next_nil R n o z w h
  clear h
  go_enter Tryd.func45, Tryd.ntmps45
  go_wp2_with fail
  refine (show Calls Tryd.prog 51 _ _ _ from HM.out).mono ?_
  rintro e w1 ⟨rfl, o1⟩
  have O1 : Hid (Only (fun _ => False) w w1) := o1
  clear HM o1
  unfold gup
  go_wp2
  exact ⟨rfl, rfl, O1.out⟩
def nmB (t : Tok) : Bool := (t.k == 1) && !(resB t.t)
set_option maxRecDepth 100000 in
theorem named_cons (R : Nat) (t : Tok) (q : List Tok) (n o z : Int) (w : World) (h : RdAt w R (t :: q) n o z) :
    Calls Tryd.prog 45 #[.pointer (some ⟨R, 0, none⟩)] w fun x w' => x = .returned (.bool (nmB t)) ∧ Only (fun _ => False) w w' := by
  have HM : Hid (Calls Tryd.prog 51 #[.pointer (some ⟨R, 0, none⟩)] w fun x w' => x = .returned t.v ∧ Only (fun _ => False) w w') := next_cons R t q n o z w h
  have HR : Hid (∀ w1, Calls Tryd.prog 58 #[.string t.t] w1 fun x w' => x = .returned (.bool (resB t.t)) ∧ w' = w1) := fun w1 => reserved_any t.t w1
  clear h
  obtain ⟨tk, tt, tn, ta⟩ := t
  simp only [Tok.v, nmB] at HM HR ⊢
  obtain ⟨b, hb⟩ : ∃ b, b = resB tt := ⟨_, rfl⟩
  rw [← hb] at HR ⊢
  clear hb
  go_enter Tryd.func45, Tryd.ntmps45
  go_wp2_with fail
  refine (show Calls Tryd.prog 51 _ _ _ from HM.out).mono ?_
  rintro e w1 ⟨rfl, o1⟩
  have O1 : Hid (Only (fun _ => False) w w1) := o1
  clear HM o1
  go_wp2_with fail
  · refine (show Calls Tryd.prog 58 _ _ _ from HR.out _).mono ?_
    rintro e w2 ⟨rfl, rfl⟩
    clear HR
    go_wp2
    go_ret
    exact ⟨by simp [*], O1.out.alloc _⟩
  · go_ret
    exact ⟨by simp [*], O1.out.alloc _⟩
end Go.Proofs.YtokponkokpdhiaaDoor
namespace Go.Proofs.YtokponkokpdhiaaDoor
open Go.RowKit
set_option linter.unusedSimpArgs false
set_option linter.unusedVariables false
set_option maxRecDepth 100000 in
theorem take_nil (R : Nat) (n o z : Int) (w : World) (h : RdAt w R [] n o z) :
    Calls Tryd.prog 54 #[.pointer (some ⟨R, 0, none⟩)] w fun x w' => x = gup n 9 ∧ Only (fun _ => False) w w' := by
  have HM : Hid (∀ w1, Only (fun _ => False) w w1 → Calls Tryd.prog 51 #[.pointer (some ⟨R, 0, none⟩)] w1 fun x w' => x = gup n 9 ∧ Only (fun _ => False) w1 w') := fun w1 o1 => next_nil R n o z w1 (h.only o1)
  have O0 : Hid (Only (fun _ => False) w w) := Only.refl _ _
  clear h
  go_enter Tryd.func54, Tryd.ntmps54
  go_wp2_with fail
  refine (show Calls Tryd.prog 51 _ _ _ from HM.out _ (by first | exact O0.out | exact O0.out.alloc _)).mono ?_
  rintro e w1 ⟨rfl, o1⟩
  have O1 : Hid (Only (fun _ => False) w w1) := by first | exact O0.out.trans o1 (fun _ _ g => g) | exact (O0.out.alloc _).trans o1 (fun _ _ g => g)
  clear HM o1
  unfold gup
  go_wp2
  exact ⟨rfl, rfl, O1.out⟩
theorem TkR.onlyR {w w' : World} {R : Nat} {v : Value} {q : List Tok} {bs : Nat → Prop} (h : TkR w R v q) (hb : ∀ b, b < R → ¬ bs b) (oo : Only bs w w') : TkR w' R v q := by
  obtain ⟨ao, cap, hv, hcap, hq⟩ := h
  refine ⟨ao, cap, hv, hcap, fun i t ht => ?_⟩
  obtain ⟨g, k, ha, hg, c0, c1, c2, c3⟩ := hq i t ht
  exact ⟨g, k, ha, hg, oo.cell c0 (hb g hg), oo.cell c1 (hb g hg), oo.cell c2 (hb g hg), oo.cell c3 (hb g hg)⟩
theorem RdAt.other {w w' : World} {R : Nat} {q : List Tok} {n o z : Int} {bs : Nat → Prop} (h : RdAt w R q n o z) (hb : ∀ b, b ≤ R → ¬ bs b) (oo : Only bs w w') : RdAt w' R q n o z := by
  obtain ⟨v, hR, hT⟩ := h
  exact ⟨v, (oo.block R (Array.getElem?_eq_some_iff.1 hR).1 (hb R (Nat.le_refl _))).trans hR, hT.onlyR (fun b h => hb b (Nat.le_of_lt h)) oo⟩
theorem TkR.tail {w : World} {R g k cap : Nat} {ao : Option Addr} {t : Tok} {q : List Tok} (h : TkR w R (.slice (some ⟨g, k, none⟩) (q.length + 1) cap) (t :: q)) (ha : 0 < q.length → ao = some ⟨g, k + 4, none⟩) : TkR w R (.slice ao q.length (cap - 1)) q := by
  obtain ⟨ao', cap', hv, hcap, hq⟩ := h
  injection hv with e1 e2 e3
  subst e1
  subst e3
  refine ⟨ao, cap - 1, rfl, (by simp only [List.length_cons] at hcap; omega), fun i u hu => ?_⟩
  have hi : i < q.length := (List.getElem?_eq_some_iff.1 hu).1
  obtain ⟨g', k', e, hg, c0, c1, c2, c3⟩ := hq (i + 1) u (by simpa using hu)
  injection e with e
  injection e with e1 e2
  subst e1
  subst e2
  refine ⟨g, k + 4, ha (by omega), hg, ?_, ?_, ?_, ?_⟩
  · rw [show k + 4 + i * 4 = k + (i + 1) * 4 by omega]; exact c0
  · rw [show k + 4 + i * 4 = k + (i + 1) * 4 by omega]; exact c1
  · rw [show k + 4 + i * 4 = k + (i + 1) * 4 by omega]; exact c2
  · rw [show k + 4 + i * 4 = k + (i + 1) * 4 by omega]; exact c3
theorem slice_tail (g k L cap : Nat) (h : L + 1 ≤ cap) : ∃ ao : Option Addr, (0 < L → ao = some ⟨g, k + 4, none⟩) ∧ ∀ W : World, (Instr.slice 27 (.slice (some ⟨g, k, none⟩) (L + 1) cap) (some (.int .i64 1)) none none).run Tryd.prog W = .ok (.slice ao L (cap - 1)) W := by
  have i1 : (1 : Int) ≤ (L : Int) + 1 := by omega
  have i2 : (0 : Int) ≤ (L : Int) := by omega
  by_cases h1 : cap = 1
  · refine ⟨some ⟨g, k, none⟩, fun h => by omega, fun W => ?_⟩
    subst h1
    simp [go_sem, i1, i2]
  · refine ⟨some ⟨g, k + 4, none⟩, fun h => rfl, fun W => ?_⟩
    have h2 : ¬ cap - 1 = 0 := by omega
    simp [go_sem, i1, i2, h1, h2]
set_option maxRecDepth 100000 in
theorem take_cons (R : Nat) (t : Tok) (q : List Tok) (n o z : Int) (w : World) (h : RdAt w R (t :: q) n o z) :
    Calls Tryd.prog 54 #[.pointer (some ⟨R, 0, none⟩)] w fun x w' => x = .returned t.v ∧ Hid (RdAt w' R q n o z ∧ Only (fun b => b = R) w w') := by
  have HM : Hid (∀ w1, Only (fun _ => False) w w1 → Calls Tryd.prog 51 #[.pointer (some ⟨R, 0, none⟩)] w1 fun x w' => x = .returned t.v ∧ Only (fun _ => False) w1 w') := fun w1 o1 => next_cons R t q n o z w1 (h.only o1)
  have O0 : Hid (Only (fun _ => False) w w) := Only.refl _ _
  obtain ⟨v, hR, hT⟩ := h
  obtain ⟨ao0, cap, hv, hcap, hq⟩ := id hT
  obtain ⟨g, k, rfl, _⟩ := hq 0 _ rfl
  subst hv
  have HT : Hid (TkR w R (.slice (some ⟨g, k, none⟩) (q.length + 1) cap) (t :: q)) := hT
  have HR : Hid (w.heap[R]? = some (.cells #[.slice (some ⟨g, k, none⟩) (q.length + 1) cap, .int .i64 n, .int .i64 o, .int .i64 z] 89)) := hR
  obtain ⟨ao, hao, hsl⟩ := slice_tail g k q.length cap hcap
  have HA : Hid (0 < q.length → ao = some ⟨g, k + 4, none⟩) := hao
  clear hR hT hcap hq hao
  obtain ⟨L, hL⟩ : ∃ L, L = q.length := ⟨_, rfl⟩
  have HL : Hid (L = q.length) := hL
  rw [← hL] at hsl HR
  clear hL
  obtain ⟨tk, tt, tn, ta⟩ := t
  simp only [Tok.v] at HM ⊢
  go_enter Tryd.func54, Tryd.ntmps54
  go_wp2_with fail
  refine (show Calls Tryd.prog 51 _ _ _ from HM.out _ (O0.out.alloc _)).mono ?_
  rintro e w1 ⟨rfl, o1⟩
  have O1 : Hid (Only (fun _ => False) w w1) := (O0.out.alloc _).trans o1 (fun _ _ g => g)
  have lR : R < w.heap.size := (Array.getElem?_eq_some_iff.1 HR.out).1
  have lB : w.heap.size < w1.heap.size := Nat.lt_of_lt_of_le (by simp) o1.size
  have hB : w1.heap[w.heap.size]? = some (.cells #[.int .i64 0, .string ⟨#[]⟩, .int .i64 0, .int .i64 0] 67) := (o1.block w.heap.size (by simp) (fun h => h)).trans (alloc_at _ _ _ rfl)
  have R1 : w1.heap[R]? = some (.cells #[.slice (some ⟨g, k, none⟩) (L + 1) cap, .int .i64 n, .int .i64 o, .int .i64 z] 89) := (O1.out.block R lR (fun h => h)).trans HR.out
  obtain ⟨B, hBe⟩ : ∃ B, B = w.heap.size := ⟨_, rfl⟩
  rw [← hBe] at hB lB ⊢
  have hal : ∀ (x : Obj) (b : Nat), b < w1.heap.size → (w1.alloc x).heap[b]? = w1.heap[b]? := fun x b hb => ((Only.refl (fun _ => False) w1).alloc x).block b hb (fun h => h)
  have R2 : ∀ x, (w1.alloc x).heap[R]? = some (.cells #[.slice (some ⟨g, k, none⟩) (L + 1) cap, .int .i64 n, .int .i64 o, .int .i64 z] 89) := fun x => (hal x R (by omega)).trans R1
  have k0 : ∀ x, (w1.alloc x).cell? ⟨R, 0, none⟩ = some (.slice (some ⟨g, k, none⟩) (L + 1) cap) := fun x => by rw [blk_cells (R2 x)]; rfl
  have kf : ∀ x, (w1.alloc x).frozen? ⟨R, 0, none⟩ = false := fun x => blk_froz (R2 x) 0
  have B2 : ∀ x v, ((w1.alloc x).setCell ⟨R, 0, none⟩ v).heap[B]? = some (.cells #[.int .i64 0, .string ⟨#[]⟩, .int .i64 0, .int .i64 0] 67) := fun x v => by
    rw [heap_setCell_other _ _ _ _ (by simp only; omega), hal x B lB, hB]
  have bb : ∀ (C : Array Value) (v : Value) (i : Nat), ((w1.alloc (.cells C 67)).setCell ⟨R, 0, none⟩ v).cell? ⟨w1.heap.size, i, none⟩ = C[i]? := fun C v i => by
    rw [World.cell?_setCell_other]
    · simp [go_sem]
    · intro e
      injection e with e1
      omega
  have c0 := fun x v => blk_cells (B2 x v) 0
  have c1 := fun x v => blk_cells (B2 x v) 1
  have c2 := fun x v => blk_cells (B2 x v) 2
  have c3 := fun x v => blk_cells (B2 x v) 3
  have z0 := fun x v => blk_froz (B2 x v) 0
  have z1 := fun x v => blk_froz (B2 x v) 1
  have z2 := fun x v => blk_froz (B2 x v) 2
  have z3 := fun x v => blk_froz (B2 x v) 3
  simp only [List.getElem?_toArray, List.getElem?_cons_zero, List.getElem?_cons_succ] at c0 c1 c2 c3
  have HB2 : Hid (∀ x v, ((w1.alloc x).setCell ⟨R, 0, none⟩ v).heap[B]? = some (.cells #[.int .i64 0, .string ⟨#[]⟩, .int .i64 0, .int .i64 0] 67)) := B2
  have HR2 : Hid (∀ x, (w1.alloc x).heap[R]? = some (.cells #[.slice (some ⟨g, k, none⟩) (L + 1) cap, .int .i64 n, .int .i64 o, .int .i64 z] 89)) := R2
  have HE : Hid (B = w.heap.size ∧ R < w.heap.size) := ⟨hBe, lR⟩
  clear HM o1 hB O0 hBe R1 R2 B2 hal lR lB
  go_wp2
  obtain ⟨q0, q1, q2, q3⟩ := set4 (HB2.out (.cells #[.int .i64 tk, .string tt, .int .i64 tn, .int .i64 ta] 67) (.slice ao L (cap - 1))) rfl (.int .i64 tk) (.string tt) (.int .i64 tn) (.int .i64 ta)
  refine bodyPost_ret (results_tk rfl _ _ B q0 q1 q2 q3 rfl) rfl ⟨rfl, ?_⟩
  obtain ⟨hBe, lR⟩ := HE.out
  have nB : ∀ i, (⟨B, i, none⟩ : Addr).block < w.heap.size → (⟨B, i, none⟩ : Addr).block = R := fun i h => by simp only at h; omega
  have OO : Only (fun b => b = R) w (((((w1.alloc (.cells #[.int .i64 tk, .string tt, .int .i64 tn, .int .i64 ta] 67)).setCell ⟨R, 0, none⟩ (.slice ao L (cap - 1))).setCell ⟨B, 0, none⟩ (.int .i64 tk)).setCell ⟨B, 1, none⟩ (.string tt)).setCell ⟨B, 2, none⟩ (.int .i64 tn) |>.setCell ⟨B, 3, none⟩ (.int .i64 ta)) :=
    (((((((show Only (fun b => b = R) w w1 from O1.out.mono (fun _ _ h => h.elim)).alloc _).setCell ⟨R, 0, none⟩ _ (fun _ => rfl)).setCell _ _ (nB 0)).setCell _ _ (nB 1)).setCell _ _ (nB 2)).setCell _ _ (nB 3))
  have hRB : R ≠ B := by omega
  refine ⟨⟨.slice ao L (cap - 1), ?_, ?_⟩, OO⟩
  · rw [heap_setCell_other _ _ _ _ hRB, heap_setCell_other _ _ _ _ hRB, heap_setCell_other _ _ _ _ hRB, heap_setCell_other _ _ _ _ hRB, heap_setCell_same _ _ _ _ _ _ (HR2.out _)]
    rfl
  · have h1 := HT.out.onlyR (fun b h e => by omega) OO
    have h2 := h1.tail HA.out
    rw [← HL.out] at h2
    exact h2
end Go.Proofs.YtokponkokpdhiaaDoor
namespace Go.Proofs.YtokponkokpdhiaaDoor
open Go.RowKit
set_option linter.unusedSimpArgs false
set_option linter.unusedVariables false
theorem RdAt.size {w : World} {R : Nat} {q : List Tok} {n o z : Int} (h : RdAt w R q n o z) (y : Int) : RdAt (w.setCell ⟨R, 3, none⟩ (.int .i64 y)) R q n o y ∧ Only (fun b => b = R) w (w.setCell ⟨R, 3, none⟩ (.int .i64 y)) := by
  obtain ⟨v, hR, hT⟩ := h
  have OO : Only (fun b => b = R) w (w.setCell ⟨R, 3, none⟩ (.int .i64 y)) := (Only.refl (fun b => b = R) w).setCell ⟨R, 3, none⟩ _ (fun _ => rfl)
  exact ⟨⟨v, (heap_setCell_same _ _ _ _ _ _ hR).trans rfl, hT.onlyR (fun b h e => by omega) OO⟩, OO⟩
theorem RdAt.open_ {w : World} {R : Nat} {q : List Tok} {n o z : Int} (h : RdAt w R q n o z) (y : Int) : RdAt (w.setCell ⟨R, 2, none⟩ (.int .i64 y)) R q n y z ∧ Only (fun b => b = R) w (w.setCell ⟨R, 2, none⟩ (.int .i64 y)) := by
  obtain ⟨v, hR, hT⟩ := h
  have OO : Only (fun b => b = R) w (w.setCell ⟨R, 2, none⟩ (.int .i64 y)) := (Only.refl (fun b => b = R) w).setCell ⟨R, 2, none⟩ _ (fun _ => rfl)
  exact ⟨⟨v, (heap_setCell_same _ _ _ _ _ _ hR).trans rfl, hT.onlyR (fun b h e => by omega) OO⟩, OO⟩
/-- what take answers -/
def tkP (R : Nat) (q : List Tok) (n o z : Int) (w : World) (x : Ending) (w' : World) : Prop := match q with
  | [] => x = gup n 9 ∧ Only (fun b => b = R) w w'
  | t :: q' => x = .returned t.v ∧ Hid (RdAt w' R q' n o z ∧ Only (fun b => b = R) w w')
theorem take_any (R : Nat) (q : List Tok) (n o z : Int) (w : World) (h : RdAt w R q n o z) :
    Calls Tryd.prog 54 #[.pointer (some ⟨R, 0, none⟩)] w (tkP R q n o z w) := by
  cases q with
  | nil => exact (take_nil R n o z w h).mono fun e w' g => ⟨g.1, g.2.mono (fun _ _ h => h.elim)⟩
  | cons t q => exact (take_cons R t q n o z w h).mono fun e w' g => g
theorem tkP.later {R : Nat} {q : List Tok} {n o z : Int} {w0 w w' : World} {x : Ending} (h : tkP R q n o z w x w') (o0 : Only (fun b => b = R) w0 w) : tkP R q n o z w0 x w' := by
  cases q with
  | nil => exact ⟨h.1, o0.trans h.2 (fun _ _ g => g)⟩
  | cons t q => exact ⟨h.1, h.2.out.1, o0.trans h.2.out.2 (fun _ _ g => g)⟩
set_option maxRecDepth 100000 in
theorem count_any (R : Nat) (q : List Tok) (n o z : Int) (w : World) (hz : 0 ≤ z ∧ z ≤ 1000000) (h : RdAt w R q n o z) :
    Calls Tryd.prog 46 #[.pointer (some ⟨R, 0, none⟩)] w fun x w' => if z = 1024 then x = gup (flt q n) 11 ∧ Only (fun b => b = R) w w' else tkP R q n o (z + 1) w x w' := by
  obtain ⟨v, hR, hT⟩ := id h
  have HF : Hid (∀ w1, Only (fun _ => False) w w1 → Calls Tryd.prog 59 #[.pointer (some ⟨R, 0, none⟩), .int .i64 11] w1 fun x w' => x = .returned (.agg #[.int .i64 (flt q n), .int .i64 11]) ∧ Only (fun _ => False) w1 w') := fun w1 o1 => fault_any R q n o z 11 w1 (h.only o1)
  have O0 : Hid (Only (fun _ => False) w w) := Only.refl _ _
  have H0 : Hid (RdAt w R q n o z) := h
  have R1 : ∀ x, (w.alloc x).heap[R]? = some (.cells #[v, .int .i64 n, .int .i64 o, .int .i64 z] 89) := fun x => (((Only.refl (fun _ => False) w).alloc x).block R (Array.getElem?_eq_some_iff.1 hR).1 (fun h => h)).trans hR
  have k3 : ∀ x, (w.alloc x).cell? ⟨R, 3, none⟩ = some (.int .i64 z) := fun x => by rw [blk_cells (R1 x)]; rfl
  have f3 : ∀ x, (w.alloc x).frozen? ⟨R, 3, none⟩ = false := fun x => blk_froz (R1 x) 3
  clear hT h hR R1
  by_cases hm : z = 1024
  · subst hm
    simp only [if_true]
    clear f3
    go_enter Tryd.func46, Tryd.ntmps46
    go_wp2_with fail
    refine (show Calls Tryd.prog 59 _ _ _ from HF.out _ (O0.out.alloc _)).mono ?_
    rintro e w1 ⟨rfl, o1⟩
    have O1 : Hid (Only (fun _ => False) w w1) := (O0.out.alloc _).trans o1 (fun _ _ g => g)
    clear HF o1
    go_wp2
    exact ⟨rfl, rfl, O1.out.mono (fun _ _ h => h.elim)⟩
  · simp only [hm, if_false]
    have i1 : (z == 1024) = false := by simp [hm]
    clear HF
    go_enter Tryd.func46, Tryd.ntmps46
    go_wp2_with fail
    have lR : R < w.heap.size := by
      obtain ⟨_, h1, _⟩ := H0.out
      exact (Array.getElem?_eq_some_iff.1 h1).1
    obtain ⟨W0, hW0⟩ : ∃ W0, W0 = (w.alloc (.cells #[.int .i64 0, .string ⟨#[]⟩, .int .i64 0, .int .i64 0] 67)).setCell ⟨R, 3, none⟩ (.int .i64 (z + 1)) := ⟨_, rfl⟩
    have A0 : RdAt W0 R q n o (z + 1) ∧ Only (fun b => b = R) (w.alloc (.cells #[.int .i64 0, .string ⟨#[]⟩, .int .i64 0, .int .i64 0] 67)) W0 := by
      rw [hW0]
      exact (H0.out.only (O0.out.alloc _)).size (z + 1)
    have A1 : Only (fun b => b = R) w W0 := (show Only (fun b => b = R) w _ from (Only.refl (fun b => b = R) w).alloc _).trans A0.2 (fun _ _ g => g)
    have A2 : W0.heap[w.heap.size]? = some (.cells #[.int .i64 0, .string ⟨#[]⟩, .int .i64 0, .int .i64 0] 67) := (A0.2.block w.heap.size (by simp) (by omega)).trans (alloc_at _ _ _ rfl)
    rw [← hW0]
    refine (show Calls Tryd.prog 54 _ _ _ from take_any R q n o (z + 1) W0 A0.1).mono ?_
    intro e w1 g1
    have G1 : Hid (tkP R q n o (z + 1) W0 e w1) := g1
    obtain ⟨B, hBe⟩ : ∃ B, B = w.heap.size := ⟨_, rfl⟩
    have HE : Hid (B = w.heap.size ∧ R < w.heap.size ∧ Only (fun b => b = R) w W0) := ⟨hBe, lR, A1⟩
    rw [← hBe] at A2 ⊢
    have lB : B < W0.heap.size := (Array.getElem?_eq_some_iff.1 A2).1
    have nBR : ¬ B = R := by omega
    clear k3 f3 O0 H0 A0 A1 hW0 lR hBe
    cases q with
    | nil =>
      obtain ⟨he, o1⟩ := g1
      subst he
      have O1 : Hid (Only (fun b => b = R) W0 w1) := o1
      clear o1 G1 A2 lB nBR
      unfold gup
      go_wp2
      exact ⟨rfl, rfl, HE.out.2.2.trans O1.out (fun _ _ g => g)⟩
    | cons t q =>
      obtain ⟨he, g2⟩ := g1
      subst he
      have R3 := (g2.out.2.block B lB nBR).trans A2
      have G2 : Hid (RdAt w1 R q n o (z + 1) ∧ Only (fun b => b = R) W0 w1) := g2.out
      have c0 := blk_cells R3 0
      have c1 := blk_cells R3 1
      have c2 := blk_cells R3 2
      have c3 := blk_cells R3 3
      have z0 := blk_froz R3 0
      have z1 := blk_froz R3 1
      have z2 := blk_froz R3 2
      have z3 := blk_froz R3 3
      have HR3 : Hid (w1.heap[B]? = some (.cells #[.int .i64 0, .string ⟨#[]⟩, .int .i64 0, .int .i64 0] 67)) := R3
      simp only [List.getElem?_toArray, List.getElem?_cons_zero, List.getElem?_cons_succ] at c0 c1 c2 c3
      clear g2 G1 A2 lB R3
      obtain ⟨tk, tt, tn, ta⟩ := t
      simp only [Tok.v]
      go_wp2
      obtain ⟨q0, q1, q2, q3⟩ := set4 HR3.out rfl (.int .i64 tk) (.string tt) (.int .i64 tn) (.int .i64 ta)
      obtain ⟨hBe, lR, A1⟩ := HE.out
      have OB : Only (fun b => b = B) w1 ((((w1.setCell ⟨B, 0, none⟩ (.int .i64 tk)).setCell ⟨B, 1, none⟩ (.string tt)).setCell ⟨B, 2, none⟩ (.int .i64 tn)).setCell ⟨B, 3, none⟩ (.int .i64 ta)) :=
        ((((Only.refl (fun b => b = B) w1).setCell ⟨B, 0, none⟩ _ (fun _ => rfl)).setCell ⟨B, 1, none⟩ _ (fun _ => rfl)).setCell ⟨B, 2, none⟩ _ (fun _ => rfl)).setCell ⟨B, 3, none⟩ _ (fun _ => rfl)
      refine bodyPost_ret (results_tk rfl _ _ B q0 q1 q2 q3 rfl) rfl ⟨rfl, G2.out.1.other (fun b h e => by omega) OB, ?_⟩
      exact (A1.trans G2.out.2 (fun _ _ g => g)).trans OB (fun b h e => by omega)
end Go.Proofs.YtokponkokpdhiaaDoor
namespace Go.Proofs.YtokponkokpdhiaaDoor
open Go.RowKit
set_option linter.unusedSimpArgs false
set_option linter.unusedVariables false
/-- what enter answers, where there is room -/
def enQ (R : Nat) (q : List Tok) (n o z : Int) (w : World) (x : Ending) (w' : World) : Prop := match q with
  | [] => x = gup n 9 ∧ Only (fun b => b = R) w w'
  | t :: q' => x = .returned (.tuple #[]) ∧ Hid (RdAt w' R q' n (o + 1) (z + 1) ∧ Only (fun b => b = R) w w')
/-- what enter answers -/
def enP (R : Nat) (q : List Tok) (n o z : Int) (w : World) (x : Ending) (w' : World) : Prop :=
  if o = 32 ∨ z = 1024 then x = gup (flt q n) 11 ∧ Only (fun b => b = R) w w' else enQ R q n o z w x w'
set_option maxRecDepth 100000 in
theorem enter_any (R : Nat) (q : List Tok) (n o z : Int) (w : World) (ho : 0 ≤ o ∧ o ≤ 1000000) (hz : 0 ≤ z ∧ z ≤ 1000000) (h : RdAt w R q n o z) :
    Calls Tryd.prog 52 #[.pointer (some ⟨R, 0, none⟩)] w (enP R q n o z w) := by
  obtain ⟨v, hR, hT⟩ := id h
  have HF : Hid (Calls Tryd.prog 59 #[.pointer (some ⟨R, 0, none⟩), .int .i64 11] w fun x w' => x = .returned (.agg #[.int .i64 (flt q n), .int .i64 11]) ∧ Only (fun _ => False) w w') := fault_any R q n o z 11 w h
  have H0 : Hid (RdAt w R q n o z) := h
  have k2 : w.cell? ⟨R, 2, none⟩ = some (.int .i64 o) := by rw [blk_cells hR]; rfl
  have f2 : w.frozen? ⟨R, 2, none⟩ = false := blk_froz hR 2
  clear hT h hR
  by_cases hm : o = 32
  · subst hm
    unfold enP
    simp only [true_or, if_true]
    clear f2
    go_enter Tryd.func52, Tryd.ntmps52
    go_wp2_with fail
    refine (show Calls Tryd.prog 59 _ _ _ from HF.out).mono ?_
    rintro e w1 ⟨rfl, o1⟩
    have O1 : Hid (Only (fun _ => False) w w1) := o1
    clear HF o1
    go_wp2
    exact ⟨rfl, rfl, O1.out.mono (fun _ _ h => h.elim)⟩
  · have i1 : (o == 32) = false := by simp [hm]
    have HP : Hid (∀ e w', (if z = 1024 then e = gup (flt q n) 11 ∧ Only (fun b => b = R) w w' else enQ R q n o z w e w') → enP R q n o z w e w') := by
      intro e w' g
      unfold enP
      simp only [hm, false_or]
      exact g
    clear HF
    go_enter Tryd.func52, Tryd.ntmps52
    go_wp2_with fail
    obtain ⟨W0, hW0⟩ : ∃ W0, W0 = w.setCell ⟨R, 2, none⟩ (.int .i64 (o + 1)) := ⟨_, rfl⟩
    have A0 : RdAt W0 R q n (o + 1) z ∧ Only (fun b => b = R) w W0 := by
      rw [hW0]
      exact H0.out.open_ (o + 1)
    rw [← hW0]
    refine (show Calls Tryd.prog 46 _ _ _ from count_any R q n (o + 1) z W0 hz A0.1).mono ?_
    intro e w1 g1
    have A1 : Hid (Only (fun b => b = R) w W0) := A0.2
    clear A0 hW0 k2 f2 H0
    by_cases hz1 : z = 1024
    · simp only [hz1, if_true] at g1
      obtain ⟨he, o1⟩ := g1
      subst he
      have O1 : Hid (Only (fun b => b = R) w w1) := A1.out.trans o1 (fun _ _ g => g)
      clear o1
      have HP1 : Hid (∀ w', Only (fun b => b = R) w w' → enP R q n o z w (gup (flt q n) 11) w') := fun w' g => HP.out _ _ (by rw [if_pos hz1]; exact ⟨rfl, g⟩)
      clear HP hz1
      unfold gup at HP1 ⊢
      go_wp2
      exact ⟨rfl, HP1.out _ O1.out⟩
    · simp only [hz1, if_false] at g1
      cases q with
      | nil =>
        obtain ⟨he, o1⟩ := g1
        subst he
        have O1 : Hid (Only (fun b => b = R) w w1) := A1.out.trans o1 (fun _ _ g => g)
        clear o1
        have HP1 : Hid (∀ w', Only (fun b => b = R) w w' → enP R [] n o z w (gup n 9) w') := fun w' g => HP.out _ _ (by rw [if_neg hz1]; exact ⟨rfl, g⟩)
        clear HP
        unfold gup at HP1 ⊢
        go_wp2
        exact ⟨rfl, HP1.out _ O1.out⟩
      | cons t q =>
        obtain ⟨he, g2⟩ := g1
        subst he
        have HP1 : Hid (enP R (t :: q) n o z w (.returned (.tuple #[])) w1) := HP.out _ _ (by rw [if_neg hz1]; exact ⟨rfl, g2.out.1, A1.out.trans g2.out.2 (fun _ _ g => g)⟩)
        clear HP g2
        obtain ⟨tk, tt, tn, ta⟩ := t
        simp only [Tok.v]
        go_wp2
        go_end0
        exact HP1.out
end Go.Proofs.YtokponkokpdhiaaDoor
