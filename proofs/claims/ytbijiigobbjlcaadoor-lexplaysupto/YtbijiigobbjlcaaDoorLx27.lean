/- Tokens of texts that are put together. -/
import Derived.Test.YtbijiigobbjlcaaDoorLx26
namespace Go.Proofs.YtbijiigobbjlcaaDoor
open Go.RowKit Go.Lib
set_option linter.unusedSimpArgs false
set_option linter.unusedVariables false
/-- A token d places on. -/
def shT (d : Nat) (t : Tok) : Tok := ⟨t.k, t.t, t.n, t.a + (d : Int)⟩
def shR (d : Nat) (r : Tok × Nat × Int) : Tok × Nat × Int := (shT d r.1, r.2.1 + d, r.2.2)
/-- A string that is read is read the same with more behind it, and further on. -/
theorem strG_ext (a n m d : Nat) (y : List Nat) : ∀ (q : List Nat) (o : Nat) (e : Bool) (out : List Nat), (strG a n (pl o q) e out).2.2 = 0 → strG (a + d) m (pl o (q ++ y)) e out = shR d (strG a n (pl o q) e out)
  | [], o, true, out => by intro h; simp [pl, strG] at h
  | [], o, false, out => by intro h; simp [pl, strG] at h
  | c :: q, o, true, out => by
    rw [List.cons_append, pl, pl]
    simp only [strG]
    cases une c with
    | none => intro h; simp at h
    | some k => exact strG_ext a n m d y q _ _ _
  | c :: q, o, false, out => by
    rw [List.cons_append, pl, pl]
    simp only [strG]
    split
    · exact strG_ext a n m d y q _ _ _
    · split
      · split
        · intro h; simp at h
        · intro _
          simp only [shR, shT]
          congr 2
          omega
      · exact strG_ext a n m d y q _ _ _
/-- Where the string's end is. -/
theorem strG_end (a n : Nat) : ∀ (q : List Nat) (o : Nat) (e : Bool) (out : List Nat), (strG a n (pl o q) e out).2.2 = 0 → ∃ k q', q = k ++ q' ∧ k ≠ [] ∧ (strG a n (pl o q) e out).2.1 = a + 1 + o + wl k
  | [], o, true, out => by intro h; simp [pl, strG] at h
  | [], o, false, out => by intro h; simp [pl, strG] at h
  | c :: q, o, true, out => by
    rw [pl]
    simp only [strG]
    cases une c with
    | none => intro h; simp at h
    | some k =>
      intro h
      obtain ⟨k, q', e1, _, e2⟩ := strG_end a n q _ _ _ h
      exact ⟨c :: k, q', by rw [e1]; rfl, by simp, by rw [wl_cons]; simp only at e2 ⊢; omega⟩
  | c :: q, o, false, out => by
    rw [pl]
    simp only [strG]
    split
    · intro h
      obtain ⟨k, q', e1, _, e2⟩ := strG_end a n q _ _ _ h
      exact ⟨c :: k, q', by rw [e1]; rfl, by simp, by rw [wl_cons]; omega⟩
    · split
      · split
        · intro h; simp at h
        · intro _
          have h34 : c = 34 := by assumption
          subst h34
          exact ⟨[34], q, rfl, by simp, by show a + o + 2 = a + 1 + o + wl [34]; rw [show wl [34] = 1 from rfl]; omega⟩
      · intro h
        obtain ⟨k, q', e1, _, e2⟩ := strG_end a n q _ _ _ h
        exact ⟨c :: k, q', by rw [e1]; rfl, by simp, by rw [wl_cons]; omega⟩
theorem str_sfx {s : ByteArray} {q : List Nat} {a : Nat} (h : Sfx s (34 :: q) a) : strR s a = strG a s.size (pl 0 q) false [] := by
  have h1 : Sfx s q (a + 1) := h.tail
  unfold strR
  rw [h1.rest, crs_tx0 h1.vl]
theorem quote_sfx {s : ByteArray} {c : Nat} {q : List Nat} {a : Nat} (h : Sfx s (c :: q) a) : (byN s a = 34) ↔ c = 34 := by
  have := h.size
  rw [wl_cons] at this
  have := wr_pos c
  rw [quote_byte (by omega), h.decode]
/-- What a word is, by its characters. -/
def wrdL (w : List Nat) (a z : Nat) : Tok × Nat × Int :=
  if (numR (tx w)).2 = 0 then (⟨2, ⟨#[]⟩, (numR (tx w)).1, a⟩, z, 0)
  else if (numR (tx w)).2 = 11 then (⟨0, ⟨#[]⟩, 0, 0⟩, a, 11)
  else if nmdB (tx w) = false then (⟨0, ⟨#[]⟩, 0, 0⟩, a, 10)
  else (⟨1, tx w, 0, a⟩, z, 0)
theorem wrd_sfx {s : ByteArray} {q : List Nat} {a : Nat} (h : Sfx s q a) : wrdR s a = wrdL (q.takeWhile (fun c => !blk c)) a (a + wl (q.takeWhile (fun c => !blk c))) := by
  have h2 : Sfx s (q.takeWhile (fun c => !blk c) ++ q.dropWhile (fun c => !blk c)) a := by rw [← split_while]; exact h
  unfold wrdR wrdL
  dsimp only
  rw [fnd_sfx _ h, h2.extract]
theorem wrdL_sh (w : List Nat) (a z d : Nat) (h : (wrdL w a z).2.2 = 0) : wrdL w (a + d) (z + d) = shR d (wrdL w a z) := by
  unfold wrdL at h ⊢
  split
  · simp only [shR, shT]
    congr 2
  · rw [if_neg (by assumption)] at h
    split
    · rw [if_pos (by assumption)] at h
      exact absurd h (by simp)
    · rw [if_neg (by assumption)] at h
      split
      · rw [if_pos (by assumption)] at h
        exact absurd h (by simp)
      · simp only [shR, shT]
        congr 2
theorem wrdL_z (w : List Nat) (a z : Nat) (h : (wrdL w a z).2.2 = 0) : (wrdL w a z).2.1 = z := by
  unfold wrdL at h ⊢
  split
  · rfl
  · rw [if_neg (by assumption)] at h
    split
    · rw [if_pos (by assumption)] at h
      exact absurd h (by simp)
    · rw [if_neg (by assumption)] at h
      split
      · rw [if_pos (by assumption)] at h
        exact absurd h (by simp)
      · rfl
/-- A token that is read is read the same with a line's end behind the text, and further on. -/
theorem red_same {s S : ByteArray} {q y : List Nat} {a d : Nat} (hq : q ≠ []) (hy : Ynl y) (h : Sfx s q a) (g : Sfx S (q ++ y) (a + d)) (hz : (redR s a).2.2 = 0) : redR S (a + d) = shR d (redR s a) := by
  cases q with
  | nil => exact absurd rfl hq
  | cons c q =>
    have k1 := quote_sfx h
    have k2 := quote_sfx (show Sfx S (c :: (q ++ y)) (a + d) from g)
    unfold redR at hz ⊢
    by_cases hc : c = 34
    · subst hc
      rw [if_pos (k1.2 rfl)] at hz ⊢
      rw [if_pos (k2.2 rfl)]
      rw [str_sfx h] at hz ⊢
      rw [str_sfx (show Sfx S (34 :: (q ++ y)) (a + d) from g)]
      exact strG_ext a _ _ d y q 0 false [] hz
    · rw [if_neg (fun x => hc (k1.1 x))] at hz ⊢
      rw [if_neg (fun x => hc (k2.1 x))]
      rw [wrd_sfx h] at hz ⊢
      rw [wrd_sfx g, tw_nl _ rfl _ hy]
      have := wrdL_sh _ _ _ d hz
      rw [← this]
      congr 1
      omega
theorem red_sfx {s : ByteArray} {q : List Nat} {a : Nat} (hq : q ≠ []) (h : Sfx s q a) (hz : (redR s a).2.2 = 0) : ∃ m q', q = m ++ q' ∧ m ≠ [] ∧ (redR s a).2.1 = a + wl m := by
  cases q with
  | nil => exact absurd rfl hq
  | cons c q =>
    have k1 := quote_sfx h
    have ha : a < s.size := by have := h.size; rw [wl_cons] at this; have := wr_pos c; omega
    have hgo := red_go ha hz
    unfold redR at hz hgo ⊢
    by_cases hc : c = 34
    · subst hc
      rw [if_pos (k1.2 rfl)] at hz ⊢
      rw [str_sfx h] at hz ⊢
      obtain ⟨k, q', e1, _, e2⟩ := strG_end a s.size q 0 false [] hz
      exact ⟨34 :: k, q', by rw [e1]; rfl, by simp, by rw [e2, wl_cons, show wr 34 = 1 from rfl]; omega⟩
    · rw [if_neg (fun x => hc (k1.1 x))] at hz hgo ⊢
      rw [wrd_sfx h] at hz hgo ⊢
      rw [wrdL_z _ _ _ hz] at hgo ⊢
      refine ⟨_, _, split_while (fun c => !blk c) (c :: q), ?_, rfl⟩
      intro e
      rw [e, wl_nil] at hgo
      omega
theorem tokG_fuel (s : ByteArray) : ∀ (f g a : Nat) (acc : List Tok), s.size - a < f → s.size - a < g → tokG s f a acc = tokG s g a acc := by
  intro f
  induction f with
  | zero => intro g a acc h _; omega
  | succ f ih =>
    intro g a acc hf hg
    obtain ⟨g, rfl⟩ : ∃ k, g = k + 1 := ⟨g - 1, by omega⟩
    unfold tokG
    by_cases ha : a < s.size
    · rw [if_pos ha, if_pos ha]
      by_cases h0 : (redR s a).2.2 = 0
      · rw [if_pos h0, if_pos h0]
        have h1 := red_go ha h0
        have h2 := bg_bd h1.2
        split
        · rfl
        · exact ih _ _ _ (by omega) (by omega)
      · rw [if_neg h0, if_neg h0]
    · rw [if_neg ha, if_neg ha]
/-- The tokens from a place on. -/
def tokH (s : ByteArray) (a : Nat) (acc : List Tok) : List Tok × Nat × Int := tokG s (s.size + 1) a acc
theorem tokH_end {s : ByteArray} {a : Nat} (acc : List Tok) (h : ¬ a < s.size) : tokH s a acc = (acc, 0, 0) := by
  unfold tokH tokG
  rw [if_neg h]
theorem tokH_go {s : ByteArray} {a : Nat} {acc : List Tok} (h : a < s.size) (h0 : (redR s a).2.2 = 0) (h1 : acc.length ≠ 4096) : tokH s a acc = tokH s (bg s (redR s a).2.1) (acc ++ [(redR s a).1]) := by
  conv => lhs; unfold tokH; unfold tokG
  rw [if_pos h, if_pos h0, if_neg h1]
  have g1 := red_go h h0
  have g2 := bg_bd g1.2
  exact tokG_fuel s _ _ _ _ (by omega) (by omega)
theorem tokH_ok {s : ByteArray} {a : Nat} {acc : List Tok} (h : a < s.size) (hz : (tokH s a acc).2.2 = 0) : (redR s a).2.2 = 0 ∧ acc.length ≠ 4096 := by
  unfold tokH tokG at hz
  rw [if_pos h] at hz
  by_cases h0 : (redR s a).2.2 = 0
  · rw [if_pos h0] at hz
    refine ⟨h0, fun g => ?_⟩
    rw [if_pos g] at hz
    exact absurd hz (by simp)
  · rw [if_neg h0] at hz
    exact absurd hz h0
/-- The tokens of a text, with a line's end and more behind it, further on. -/
theorem tok_run {s S : ByteArray} {y : List Nat} {d : Nat} (hy : Ynl y) : ∀ (n : Nat) (q : List Nat) (a : Nat) (acc' : List Tok), q.length ≤ n → Sfx s q a → Sfx S (q ++ y) (a + d) → (tokH s (bg s a) acc').2.2 = 0 →
    ∃ R, (tokH s (bg s a) acc').1 = acc' ++ R ∧ ∀ acc : List Tok, acc.length + R.length ≤ 4096 → tokH S (bg S (a + d)) acc = tokH S (bg S (s.size + d)) (acc ++ R.map (shT d)) := by
  intro n
  induction n with
  | zero =>
    intro q a acc' hn h g hz
    obtain rfl : q = [] := List.eq_nil_of_length_eq_zero (by omega)
    have hb : Sfx s [] (bg s a) := bg_sfx h
    have hs := h.size
    have hbs := hb.size
    rw [wl_nil] at hs hbs
    refine ⟨[], by rw [tokH_end _ (by omega)]; simp, fun acc _ => ?_⟩
    rw [show s.size + d = a + d by omega]
    simp
  | succ n ih =>
    intro q a acc' hn h g hz
    have hb := bg_sfx h
    have gb := bg_sfx g
    rw [SK_ext y hy _ q (Nat.le_refl _)] at gb
    have hs := h.size
    have gs := g.size
    have hbs := hb.size
    have gy : Sfx S y (s.size + d) := by
      have := g.drop
      rwa [show a + d + wl q = s.size + d by omega] at this
    cases hr : SK q with
    | nil =>
      rw [hr, wl_nil] at hbs
      rw [hr, if_pos rfl] at gb
      refine ⟨[], by rw [tokH_end _ (by omega)]; simp, fun acc _ => ?_⟩
      rw [gb.pos (bg_sfx gy)]
      simp
    | cons c r =>
      rw [hr] at hb hbs
      rw [hr, if_neg (by simp)] at gb
      have gbs := gb.size
      have hw := wr_pos c
      rw [wl_cons] at hbs
      rw [wl_app, wl_cons] at gbs
      rw [wl_app] at gs
      have epos : bg S (a + d) = bg s a + d := by omega
      have hlt : bg s a < s.size := by omega
      obtain ⟨z1, z2⟩ := tokH_ok hlt hz
      rw [tokH_go hlt z1 z2] at hz ⊢
      rw [epos] at gb ⊢
      have hsame := red_same (by simp) hy hb gb z1
      obtain ⟨m, q', em, hm, hp⟩ := red_sfx (by simp) hb z1
      have hb' : Sfx s q' (redR s (bg s a)).2.1 := by rw [hp]; rw [em] at hb; exact hb.drop
      have gb' : Sfx S (q' ++ y) ((redR s (bg s a)).2.1 + d) := by
        rw [em, List.append_assoc] at gb
        have := gb.drop
        rw [hp]
        rwa [show bg s a + d + wl m = bg s a + wl m + d by omega] at this
      have hl : q'.length ≤ n := by
        have h1 := SK_len q
        rw [hr, em, List.length_append] at h1
        have := List.length_pos_iff.2 hm
        omega
      obtain ⟨R, e1, e2⟩ := ih q' _ _ hl hb' gb' hz
      refine ⟨(redR s (bg s a)).1 :: R, by rw [e1]; simp, fun acc hacc => ?_⟩
      rw [List.length_cons] at hacc
      have hz2 : (redR S (bg s a + d)).2.2 = 0 := by rw [hsame]; exact z1
      have hlt2 : bg s a + d < S.size := by omega
      rw [tokH_go hlt2 hz2 (by omega), hsame]
      show tokH S (bg S ((redR s (bg s a)).2.1 + d)) (acc ++ [shT d (redR s (bg s a)).1]) = _
      rw [e2 (acc ++ [shT d (redR s (bg s a)).1]) (by rw [List.length_append]; simp; omega)]
      simp
theorem stR_tx {l : List Nat} (h : VL l) : ¬ stR (tx l) < (tx l).size := by
  have key : ∀ (q : List Nat) (o : Nat), Sfx (tx l) q o → stL (tx l) (pl o q) = (tx l).size := by
    intro q
    induction q with
    | nil => intro o _; rfl
    | cons c q ih =>
      intro o ho
      rw [pl]
      unfold stL
      rw [if_neg]
      · exact ih _ ho.tail
      · rintro ⟨rfl, hp⟩
        rw [ho.rest] at hp
        have e : (tx (65533 :: q)).extract 0 3 = tx [65533] := by
          have : Sfx (tx (65533 :: q)) ([65533] ++ q) 0 := sfx_all ho.vl
          have := this.extract
          rwa [show 0 + wl [65533] = 3 from rfl] at this
        unfold preB at hp
        rw [show rpB.size = 3 from rfl, e, show tx [65533] = rpB from rfl] at hp
        have hz : 3 ≤ (tx (65533 :: q)).size := by rw [tx_size, wl_cons, show wr 65533 = 3 from rfl]; omega
        rw [decide_eq_true hz] at hp
        simp at hp
  unfold stR
  rw [crs_tx0 h, key l 0 (sfx_all h)]
  omega
theorem tokR_h {s : ByteArray} (h0 : s.size ≤ 65536) (h1 : ¬ stR s < s.size) : tokR s = tokH s (bg s 0) [] := by
  unfold tokR
  rw [if_neg (by omega), if_neg h1]
  rfl
theorem tokR_ok {s : ByteArray} (h : (tokR s).2.2 = 0) : s.size ≤ 65536 ∧ ∃ l, VL l ∧ s = tx l := by
  have h0 := tokR_size h
  refine ⟨h0, valid_tx fun g => ?_⟩
  unfold tokR at h
  rw [if_neg (by omega), if_pos g] at h
  exact absurd h (by simp)
theorem tokR_place {s : ByteArray} (h : (tokR s).2.2 = 0) : (tokR s).2.1 = 0 := by
  have key : ∀ (f a : Nat) (acc : List Tok), (tokG s f a acc).2.2 = 0 → (tokG s f a acc).2.1 = 0 := by
    intro f
    induction f with
    | zero => intro a acc _; rfl
    | succ f ih =>
      intro a acc
      unfold tokG
      split
      · split
        · split
          · intro h; simp at h
          · exact ih _ _
        · intro h; exact absurd h (by assumption)
      · intro _; rfl
  unfold tokR at h ⊢
  split
  · rfl
  · rw [if_neg (by assumption)] at h
    split
    · rw [if_pos (by assumption)] at h
      exact absurd h (by simp)
    · rw [if_neg (by assumption)] at h
      exact key _ _ _ h
/-- The tokens of a text behind which more stands on a new line. -/
theorem tok_more {s : ByteArray} {l x : List Nat} (hl : VL l) (hx : VL x) (hs : s = tx l) (h : (tokR s).2.2 = 0) (hz : s.size + 1 + wl x ≤ 65536) :
    tokR (tx (l ++ 10 :: x)) = tokH (tx (l ++ 10 :: x)) (bg (tx (l ++ 10 :: x)) (s.size + 1)) (tokR s).1 := by
  have hv : VL (l ++ 10 :: x) := by
    intro c hc
    rcases List.mem_append.1 hc with hc | hc
    · exact hl c hc
    · rcases List.mem_cons.1 hc with rfl | hc
      · exact .inl (by decide)
      · exact hx c hc
  have h0 := tokR_size h
  subst hs
  have e1 : tokR (tx l) = tokH (tx l) (bg (tx l) 0) [] := tokR_h h0 (stR_tx hl)
  have hsz : (tx (l ++ 10 :: x)).size = (tx l).size + 1 + wl x := by rw [tx_size, tx_size, wl_app, wl_cons, show wr 10 = 1 from rfl]; omega
  rw [tokR_h (by omega) (stR_tx hv)]
  have hlen := tokR_len (tx l)
  rw [e1] at h hlen ⊢
  obtain ⟨R, r1, r2⟩ := tok_run (d := 0) (.inr ⟨x, rfl⟩) l.length l 0 [] (Nat.le_refl _) (sfx_all hl) (sfx_all hv) h
  rw [List.nil_append] at r1
  have h00 : ∀ t : Tok, shT 0 t = t := fun t => by cases t; simp [shT]
  have := r2 [] (by rw [r1] at hlen; simpa using hlen)
  rw [Nat.add_zero, Nat.add_zero, List.nil_append, List.map_congr_left (fun t _ => h00 t), List.map_id'] at this
  rw [this, r1]
  have gy : Sfx (tx (l ++ 10 :: x)) (10 :: x) (tx l).size := by
    have := (sfx_all hv).drop
    rwa [Nat.zero_add, ← tx_size] at this
  have gx := gy.tail
  rw [show wr 10 = 1 from rfl] at gx
  have p1 := bg_sfx gy
  rw [SK_ten] at p1
  rw [p1.pos (bg_sfx gx)]
end Go.Proofs.YtbijiigobbjlcaaDoor
