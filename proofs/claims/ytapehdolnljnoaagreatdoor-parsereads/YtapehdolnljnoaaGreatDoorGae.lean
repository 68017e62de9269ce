/- LexComments: the walk. LexQuotes: what stands for a text is read as it. LexQuotes: the walk. The document's numbers: script and number. The document's number. Numbers and names: what the program and the document say is the same. The document's Number and Name. The document's Name. Names and numbers of the document: Reserved, Name, In. -/
import Derived.Test.YtapehdolnljnoaaGreatDoorGad
import Derived.Deep.QuietTactic
import Derived.Test.YtapehdolnljnoaaGreatDoorGac
namespace Go.Proofs.YtapehdolnljnoaaGreatDoor
open Go.RowKit Go.Lib
set_option linter.unusedSimpArgs false
set_option linter.unusedVariables false
theorem VL.app {a b : List Nat} (h : VL a) (g : VL b) : VL (a ++ b) := fun c hc => by
  rcases List.mem_append.1 hc with hc | hc
  · exact h c hc
  · exact g c hc
theorem no_ten {t : ByteArray} {x : List Nat} (e : t = tx x) (h : ∀ i, i < t.size → byN t i ≠ 10) : ∀ c ∈ x, c ≠ 10 := by
  intro c hc h10
  subst h10
  have h1 : (10 : UInt8) ∈ enL x := by
    unfold enL
    exact List.mem_flatMap.2 ⟨10, hc, by decide⟩
  obtain ⟨i, hi, e1⟩ := List.getElem_of_mem h1
  have hd : t.data.toList = enL x := by rw [e, tx_data]
  have hz : i < t.size := by
    have : t.data.toList.length = t.size := Array.length_toList
    rw [hd] at this
    omega
  refine h i hz ?_
  unfold byN
  rw [← get_bang t i hz]
  have : t[i]'hz = (10 : UInt8) := by
    rw [← e1]
    have : t.data.toList[i]'(by rw [hd]; exact hi) = (enL x)[i] := by simp only [hd]
    rw [← this]
    rfl
  rw [this]
  rfl
theorem dw_ten {x : List Nat} (h : ∀ c ∈ x, c ≠ 10) (y : List Nat) (hy : Ynl y) : (x ++ y).dropWhile (fun c => !decide (c = 10)) = y := by
  induction x with
  | nil =>
    rcases hy with rfl | ⟨z, rfl⟩
    · rfl
    · rw [List.nil_append, List.dropWhile_cons, if_neg (by decide)]
  | cons c x ih =>
    have hc := h c (List.mem_cons_self ..)
    rw [List.cons_append, List.dropWhile_cons, if_pos (by simp [hc])]
    exact ih (fun d hd => h d (List.mem_cons_of_mem _ hd))
theorem SK_remark {x : List Nat} (h : ∀ c ∈ x, c ≠ 10) (y : List Nat) (hy : Ynl y) : SK (33 :: 32 :: (x ++ y)) = SK y := by
  rw [SK_eq]
  have e : (33 :: 32 :: (x ++ y)).dropWhile blk = 33 :: 32 :: (x ++ y) := by rw [List.dropWhile_cons, if_neg (by decide)]
  have r : rmL (33 :: 32 :: (x ++ y)) = true := by
    unfold rmL
    rw [List.head?_cons, List.tail_cons, List.takeWhile_cons, if_neg (by decide)]
    rfl
  rw [e, if_pos r]
  have h2 : ∀ c ∈ (33 :: 32 :: x), c ≠ 10 := by
    intro c hc
    rcases List.mem_cons.1 hc with rfl | hc
    · decide
    · rcases List.mem_cons.1 hc with rfl | hc
      · decide
      · exact h c hc
  have := dw_ten h2 y hy
  rw [show 33 :: 32 :: x ++ y = 33 :: 32 :: (x ++ y) from rfl] at this
  rw [this]
theorem comments_pure {s t : ByteArray} (h1 : (tokR s).2.2 = 0) (hz : s.size + t.size + 4 ≤ 65536) (hb : ¬ stR t < t.size) (hn : ∀ i, i < t.size → byN t i ≠ 10) :
    tokR (s ++ ⟨#[10, 33, 32]⟩ ++ t) = ((tokR s).1, 0, 0) ∧ tokR (s ++ ⟨#[10, 33, 32]⟩ ++ t ++ ⟨#[10]⟩) = ((tokR s).1, 0, 0) := by
  obtain ⟨_, l, hl, e1⟩ := tokR_ok h1
  obtain ⟨x, hx, e2⟩ := valid_tx hb
  have hn2 := no_ten e2 hn
  have key : ∀ y : List Nat, Ynl y → VL y → SK y = [] → wl y ≤ 1 → tokR (tx (l ++ 10 :: (33 :: 32 :: (x ++ y)))) = ((tokR s).1, 0, 0) := by
    intro y hy hvy hsk hw
    have hvx : VL (33 :: 32 :: (x ++ y)) := by
      have h0 : VL [33, 32] := by
        intro c hc
        simp only [List.mem_cons, List.not_mem_nil, or_false] at hc
        rcases hc with rfl | rfl <;> exact .inl (by decide)
      exact VL.app h0 (VL.app hx hvy)
    have hs : s.size = wl l := by rw [e1, tx_size]
    have ht : t.size = wl x := by rw [e2, tx_size]
    have hw2 : wl (33 :: 32 :: (x ++ y)) = 2 + (wl x + wl y) := by rw [wl_cons, wl_cons, wl_app, show wr 33 = 1 from rfl, show wr 32 = 1 from rfl]; omega
    have hm := tok_more hl hvx e1 h1 (by omega)
    rw [hm]
    have hv : VL (l ++ 10 :: (33 :: 32 :: (x ++ y))) := VL.app hl (VL.app (a := [10]) (by intro c hc; simp at hc; subst hc; exact .inl (by decide)) hvx)
    have gx : Sfx (tx (l ++ 10 :: (33 :: 32 :: (x ++ y)))) (33 :: 32 :: (x ++ y)) (s.size + 1) := by
      have := (sfx_all hv).drop.tail
      rwa [Nat.zero_add, show wr 10 = 1 from rfl, ← hs] at this
    have gb := bg_sfx gx
    rw [SK_remark hn2 y hy, hsk] at gb
    have := gb.size
    rw [wl_nil] at this
    exact tokH_end _ (by omega)
  constructor
  · have := key [] (.inl rfl) (fun c hc => by simp at hc) rfl (by decide)
    rw [← this, e1, e2, show (⟨#[10, 33, 32]⟩ : ByteArray) = tx [10, 33, 32] from rfl, tx_app, tx_app, List.append_nil, List.append_assoc]
    rfl
  · have := key [10] (.inr ⟨[], rfl⟩) (fun c hc => by simp at hc; subst hc; exact .inl (by decide)) rfl (by decide)
    rw [← this, e1, e2, show (⟨#[10, 33, 32]⟩ : ByteArray) = tx [10, 33, 32] from rfl, show (⟨#[10]⟩ : ByteArray) = tx [10] from rfl, tx_app, tx_app, tx_app, List.append_assoc, List.append_assoc]
    rfl
end Go.Proofs.YtapehdolnljnoaaGreatDoor
namespace Go.Proofs.YtapehdolnljnoaaGreatDoor
open Go.RowKit Go.Lib
set_option linter.unusedSimpArgs false
set_option linter.unusedVariables false
theorem SK_head {c : Nat} (h : blk c = false) (h33 : c ≠ 33) (q : List Nat) : SK (c :: q) = c :: q := by
  have hd : (c :: q).dropWhile blk = c :: q := by rw [List.dropWhile_cons, if_neg (by rw [h]; simp)]
  have : rmL (c :: q) = false := by
    unfold rmL
    rw [List.head?_cons, decide_eq_false (by simpa using h33)]
    rfl
  rw [SK_eq, hd, if_neg (by rw [this]; simp)]
theorem SK_one {b : Nat} (h : blk b = true) (q : List Nat) : SK (b :: q) = SK q := SK_blank [b] q (by rw [List.dropWhile_cons, if_pos h]; rfl)
theorem str_quo (a n : Nat) (rest : List Nat) : ∀ (l : List Nat) (o : Nat) (out : List Nat), strG a n (pl o (quo l ++ 34 :: rest)) false out = if 4096 < (enL (out ++ l)).length then (zT, a, 11) else (⟨3, tx (out ++ l), 0, a⟩, a + o + wl (quo l) + 2, 0)
  | [], o, out => by
    rw [show quo [] = [] from rfl, List.nil_append, pl, List.append_nil]
    simp only [strG]
    rw [if_neg (by decide), if_pos trivial, wl_nil, Nat.add_zero]
  | c :: l, o, out => by
    have e : quo (c :: l) = quC c ++ quo l := by simp [quo]
    rw [e]
    unfold quC
    by_cases h10 : c = 10
    · subst h10
      rw [if_pos rfl]
      show strG a n (pl o (92 :: 110 :: (quo l ++ 34 :: rest))) false out = _
      rw [pl, pl]
      simp only [strG, if_true, show une 110 = some 10 from rfl]
      rw [str_quo a n rest l _ (out ++ [10]), List.append_assoc, wl_app, show wl [92, 110] = 2 from rfl, show wr 92 = 1 from rfl, show wr 110 = 1 from rfl]
      simp only [List.singleton_append]
      split
      · rfl
      · congr 2
        omega
    · rw [if_neg h10]
      by_cases h34 : c = 34 ∨ c = 92
      · rw [if_pos h34]
        show strG a n (pl o (92 :: c :: (quo l ++ 34 :: rest))) false out = _
        rw [pl, pl]
        have hu : une c = some c := by unfold une; rw [if_neg (by omega), if_pos h34]
        simp only [strG, if_true, hu]
        rw [str_quo a n rest l _ (out ++ [c]), List.append_assoc, wl_app, wl_cons, wl_cons, wl_nil]
        simp only [List.singleton_append, show wr 92 = 1 from rfl]
        split
        · rfl
        · congr 2
          omega
      · rw [if_neg h34]
        show strG a n (pl o (c :: (quo l ++ 34 :: rest))) false out = _
        rw [pl]
        simp only [strG]
        rw [if_neg (by omega), if_neg (by omega), str_quo a n rest l _ (out ++ [c]), List.append_assoc, wl_app, wl_cons, wl_nil]
        simp only [List.singleton_append]
        split
        · rfl
        · congr 2
          omega
theorem quo_wl : ∀ l : List Nat, wl (quo l) ≤ 2 * wl l
  | [] => Nat.le_refl _
  | c :: l => by
    have := quo_wl l
    have e : quo (c :: l) = quC c ++ quo l := by simp [quo]
    have hw := wr_pos c
    rw [e, wl_app, wl_cons]
    unfold quC
    split
    · rw [show wl [92, 110] = 2 from rfl]; omega
    · split
      · rename_i h
        have : wr c = 1 := by rcases h with rfl | rfl <;> rfl
        rw [wl_cons, wl_cons, wl_nil, show wr 92 = 1 from rfl]; omega
      · rw [wl_cons, wl_nil]; omega
theorem quo_vl {l : List Nat} (h : VL l) : VL (quo l) := by
  intro c hc
  obtain ⟨d, hd, hc⟩ := List.mem_flatMap.1 hc
  unfold quC at hc
  split at hc
  · simp only [List.mem_cons, List.not_mem_nil, or_false] at hc
    rcases hc with rfl | rfl <;> exact .inl (by decide)
  · split at hc
    · simp only [List.mem_cons, List.not_mem_nil, or_false] at hc
      rcases hc with rfl | rfl
      · exact .inl (by decide)
      · exact h _ hd
    · simp only [List.mem_cons, List.not_mem_nil, or_false] at hc
      subst hc
      exact h _ hd
theorem dup_num : (numR (tx [100, 117, 112])).2 = 9 := by kernel_rfl
theorem dup_nm : nmdB (tx [100, 117, 112]) = true := by kernel_rfl
theorem swap_num : (numR (tx [115, 119, 97, 112])).2 = 9 := by kernel_rfl
theorem swap_nm : nmdB (tx [115, 119, 97, 112]) = true := by kernel_rfl
theorem wrd_dup (a z : Nat) : wrdL [100, 117, 112] a z = (⟨1, tx [100, 117, 112], 0, a⟩, z, 0) := by
  unfold wrdL
  rw [dup_num, dup_nm, if_neg (by decide), if_neg (by decide), if_neg (by decide)]
theorem wrd_swap (a z : Nat) : wrdL [115, 119, 97, 112] a z = (⟨1, tx [115, 119, 97, 112], 0, a⟩, z, 0) := by
  unfold wrdL
  rw [swap_num, swap_nm, if_neg (by decide), if_neg (by decide), if_neg (by decide)]
theorem red_word {s : ByteArray} {c : Nat} {q w r : List Nat} {a : Nat} (h : Sfx s (c :: q) a) (hc : c ≠ 34) (hw : (c :: q).takeWhile (fun c => !blk c) = w) : redR s a = wrdL w a (a + wl w) := by
  unfold redR
  rw [if_neg (fun x => hc ((quote_sfx h).1 x)), wrd_sfx h, hw]
theorem red_str {s : ByteArray} {q : List Nat} {a : Nat} (h : Sfx s (34 :: q) a) : redR s a = strG a s.size (pl 0 q) false [] := by
  unfold redR
  rw [if_pos ((quote_sfx h).2 rfl), str_sfx h]
theorem tw_dup (q : List Nat) : (100 :: 117 :: 112 :: 32 :: q).takeWhile (fun c => !blk c) = [100, 117, 112] := by simp [List.takeWhile_cons, blk]
theorem tw_swap (q : List Nat) : (115 :: 119 :: 97 :: 112 :: 32 :: q).takeWhile (fun c => !blk c) = [115, 119, 97, 112] := by simp [List.takeWhile_cons, blk]
theorem wl_dup : wl [100, 117, 112] = 3 := by decide
theorem wl_swap : wl [115, 119, 97, 112] = 4 := by decide
set_option maxHeartbeats 1000000 in
theorem quotes_pure {l : List Nat} (hv : VL l) (hz : wl l ≤ 4096) :
    ∃ b c : Int, tokR (tx ([100, 117, 112, 32] ++ ([34] ++ quo l ++ [34]) ++ [115, 119, 97, 112, 32] ++ ([34] ++ quo l ++ [34]))) = ([⟨1, tx [100, 117, 112], 0, 0⟩, ⟨3, tx l, 0, 4⟩, ⟨1, tx [115, 119, 97, 112], 0, b⟩, ⟨3, tx l, 0, c⟩], 0, 0) := by
  have hq := quo_wl l
  have hqv := quo_vl hv
  have e0 : [100, 117, 112, 32] ++ ([34] ++ quo l ++ [34]) ++ [115, 119, 97, 112, 32] ++ ([34] ++ quo l ++ [34]) = 100 :: 117 :: 112 :: 32 :: 34 :: (quo l ++ 34 :: 115 :: 119 :: 97 :: 112 :: 32 :: 34 :: (quo l ++ 34 :: [])) := by simp
  rw [e0]
  have o1 : ∀ c, c ≤ 127 → Vr c := fun c h => .inl (by omega)
  have hvl : VL (100 :: 117 :: 112 :: 32 :: 34 :: (quo l ++ 34 :: 115 :: 119 :: 97 :: 112 :: 32 :: 34 :: (quo l ++ 34 :: []))) := by
    intro c hc
    simp only [List.mem_cons, List.mem_append, List.not_mem_nil, or_false] at hc
    rcases hc with rfl | rfl | rfl | rfl | rfl | hc | rfl | rfl | rfl | rfl | rfl | rfl | rfl | hc | rfl
    all_goals first
      | exact hqv _ hc
      | exact o1 _ (by decide)
  obtain ⟨S, hS⟩ : ∃ S, S = tx (100 :: 117 :: 112 :: 32 :: 34 :: (quo l ++ 34 :: 115 :: 119 :: 97 :: 112 :: 32 :: 34 :: (quo l ++ 34 :: []))) := ⟨_, rfl⟩
  have f0 : Sfx S (100 :: 117 :: 112 :: 32 :: 34 :: (quo l ++ 34 :: 115 :: 119 :: 97 :: 112 :: 32 :: 34 :: (quo l ++ 34 :: []))) 0 := by rw [hS]; exact sfx_all hvl
  have hst : ¬ stR S < S.size := by rw [hS]; exact stR_tx hvl
  rw [← hS]
  clear hS hvl
  have w1 : ∀ c, c ≤ 127 → wr c = 1 := fun c h => by unfold wr; rw [enc1 h]; rfl
  have f1 := f0.tail
  have f2 := f1.tail
  have f3 := f2.tail
  have f4 := f3.tail
  rw [w1 100 (by decide), w1 117 (by decide), w1 112 (by decide)] at f3
  rw [w1 100 (by decide), w1 117 (by decide), w1 112 (by decide), w1 32 (by decide)] at f4
  rw [show 0 + 1 + 1 + 1 = 3 from rfl] at f3
  rw [show 0 + 1 + 1 + 1 + 1 = 4 from rfl] at f4
  obtain ⟨R3, hR3⟩ : ∃ R3, R3 = 115 :: 119 :: 97 :: 112 :: 32 :: 34 :: (quo l ++ 34 :: []) := ⟨_, rfl⟩
  obtain ⟨R4, hR4⟩ : ∃ R4, R4 = 34 :: (quo l ++ 34 :: []) := ⟨_, rfl⟩
  rw [← hR3] at f0 f1 f2 f3 f4
  -- the second token's end
  have f5 : Sfx S R3 (4 + wl (34 :: (quo l ++ [34]))) := by
    have : Sfx S ((34 :: (quo l ++ [34])) ++ R3) 4 := by simpa using f4
    exact this.drop
  have lw : wl (34 :: (quo l ++ [34])) = wl (quo l) + 2 := by rw [wl_cons, wl_app, wl_cons, wl_nil, w1 34 (by decide)]; omega
  rw [lw] at f5
  obtain ⟨p, hp⟩ : ∃ p, p = 4 + (wl (quo l) + 2) := ⟨_, rfl⟩
  rw [← hp] at f5
  have f5' := f5
  rw [hR3, ← hR4] at f5'
  have f9 : Sfx S R4 (p + 5) := by
    have := f5'.tail.tail.tail.tail.tail
    rwa [w1 115 (by decide), w1 119 (by decide), w1 97 (by decide), w1 112 (by decide), w1 32 (by decide)] at this
  have f8 : Sfx S (32 :: R4) (p + 4) := by
    have := f5'.tail.tail.tail.tail
    rwa [w1 115 (by decide), w1 119 (by decide), w1 97 (by decide), w1 112 (by decide)] at this
  have hsz : S.size = p + 5 + (wl (quo l) + 2) := by
    have := f9.size
    rw [hR4, show 34 :: (quo l ++ 34 :: []) = 34 :: (quo l ++ [34]) from rfl, lw] at this
    exact this
  -- the steps
  have b0 : bg S 0 = 0 := by
    have := bg_sfx f0
    rw [SK_head rfl (by decide)] at this
    exact this.pos f0
  have r0 : redR S 0 = (⟨1, tx [100, 117, 112], 0, 0⟩, 3, 0) := by
    rw [red_word (r := []) f0 (by decide) (tw_dup _), wrd_dup, wl_dup]
    rfl
  have b3 : bg S 3 = 4 := by
    have := bg_sfx f3
    rw [SK_one rfl, SK_head rfl (by decide)] at this
    exact this.pos f4
  have hl4 : ¬ 4096 < (enL ([] ++ l)).length := by rw [List.nil_append]; show ¬ 4096 < wl l; omega
  have r4 : redR S 4 = (⟨3, tx l, 0, 4⟩, p, 0) := by
    rw [red_str f4, str_quo, if_neg hl4, List.nil_append, show 4 + 0 + wl (quo l) + 2 = p by omega]
    rfl
  have bp : bg S p = p := by
    have := bg_sfx f5'
    rw [SK_head rfl (by decide)] at this
    exact this.pos f5'
  have rp : redR S p = (⟨1, tx [115, 119, 97, 112], 0, p⟩, p + 4, 0) := by
    rw [red_word (r := []) f5' (by decide) (tw_swap _), wrd_swap, wl_swap]
  have bp4 : bg S (p + 4) = p + 5 := by
    have := bg_sfx f8
    rw [SK_one rfl, hR4, SK_head rfl (by decide), ← hR4] at this
    exact this.pos f9
  have r9 : redR S (p + 5) = (⟨3, tx l, 0, (p + 5 : Nat)⟩, S.size, 0) := by
    rw [hR4] at f9
    rw [red_str f9, str_quo, if_neg hl4, List.nil_append, show p + 5 + 0 + wl (quo l) + 2 = S.size by omega]
  refine ⟨(p : Int), ((p + 5 : Nat) : Int), ?_⟩
  rw [tokR_h (by omega) hst, b0]
  rw [tokH_go (by omega) (by rw [r0]) (by simp), r0]
  dsimp only
  rw [b3, tokH_go (by omega) (by rw [r4]) (by simp), r4]
  dsimp only
  rw [bp, tokH_go (by omega) (by rw [rp]) (by simp), rp]
  dsimp only
  rw [bp4, tokH_go (by omega) (by rw [r9]) (by simp), r9]
  dsimp only
  have := bg_bd (s := S) (a := S.size) (Nat.le_refl _)
  rw [tokH_end _ (by omega)]
  rfl
end Go.Proofs.YtapehdolnljnoaaGreatDoor
namespace Go.Proofs.YtapehdolnljnoaaGreatDoor
open Go.RowKit Go.Lib
set_option linter.unusedSimpArgs false
set_option linter.unusedVariables false
theorem quotes_toks {s : ByteArray} (h : ¬ stR s < s.size) (hz : ¬ 4096 < s.size) : ∃ b c : Int, tokR (⟨#[100, 117, 112, 32]⟩ ++ tx ([34] ++ quo (rns s) ++ [34]) ++ ⟨#[115, 119, 97, 112, 32]⟩ ++ tx ([34] ++ quo (rns s) ++ [34])) = ([⟨1, ⟨#[100, 117, 112]⟩, 0, 0⟩, ⟨3, s, 0, 4⟩, ⟨1, ⟨#[115, 119, 97, 112]⟩, 0, b⟩, ⟨3, s, 0, c⟩], 0, 0) ∧ (tx ([34] ++ quo (rns s) ++ [34])).size ≤ 10000 := by
  obtain ⟨l, hv, e⟩ := valid_tx h
  have hl : wl l ≤ 4096 := by rw [← tx_size, ← e]; omega
  obtain ⟨b, c, g⟩ := quotes_pure hv hl
  refine ⟨b, c, ?_, ?_⟩
  · rw [e, rns_tx hv]
    have e1 : (⟨#[100, 117, 112, 32]⟩ : ByteArray) = tx [100, 117, 112, 32] := rfl
    have e2 : (⟨#[115, 119, 97, 112, 32]⟩ : ByteArray) = tx [115, 119, 97, 112, 32] := rfl
    rw [e1, e2, tx_app, tx_app, tx_app, g]
    rfl
  · rw [e, rns_tx hv, tx_size, wl_app, wl_app]
    have := quo_wl l
    have : wl [34] = 1 := by decide
    omega
end Go.Proofs.YtapehdolnljnoaaGreatDoor
namespace Go.Proofs.YtapehdolnljnoaaGreatDoor
open Go.RowKit Go.Lib
set_option linter.unusedSimpArgs false
set_option linter.unusedVariables false
/-- The nought of a digit's script, or 0. -/
def rs (c : Nat) : Nat := if 48 ≤ c ∧ c ≤ 57 then 48 else if 1632 ≤ c ∧ c ≤ 1641 then 1632 else if 65296 ≤ c ∧ c ≤ 65305 then 65296 else 0
set_option maxRecDepth 100000 in
set_option maxHeartbeats 1000000 in
theorem rscript_any (c : Nat) (w : World) : Calls Tryz.prog 96 #[.int .i32 (c : Int)] w fun e w' => e = .returned (.int .i32 (rs c : Int)) ∧ w' = w := by
  unfold rs
  by_cases h1 : 48 ≤ c ∧ c ≤ 57
  · rw [if_pos h1]
    have i1 : (48 : Int) ≤ (c : Int) := by omega
    have i2 : (c : Int) ≤ 57 := by omega
    go_enter Tryz.func96, Tryz.ntmps96
    go_wp2
    go_ret
    exact ⟨rfl, rfl⟩
  · rw [if_neg h1]
    have j1 : (decide ((48 : Int) ≤ (c : Int)) && decide ((c : Int) ≤ 57)) = false := by
      rw [Bool.eq_false_iff]; simp only [ne_eq, Bool.and_eq_true, decide_eq_true_eq]; omega
    by_cases h2 : 1632 ≤ c ∧ c ≤ 1641
    · rw [if_pos h2]
      have i1 : (1632 : Int) ≤ (c : Int) := by omega
      have i2 : (c : Int) ≤ 1641 := by omega
      have i3 : (48 : Int) ≤ (c : Int) := by omega
      have i4 : decide ((c : Int) ≤ 57) = false := decide_eq_false (by omega)
      clear j1 h1 h2
      go_enter Tryz.func96, Tryz.ntmps96
      go_wp2
      go_ret
      exact ⟨rfl, rfl⟩
    · rw [if_neg h2]
      by_cases h3 : 65296 ≤ c ∧ c ≤ 65305
      · rw [if_pos h3]
        have i1 : (65296 : Int) ≤ (c : Int) := by omega
        have i2 : (c : Int) ≤ 65305 := by omega
        have i3 : (48 : Int) ≤ (c : Int) := by omega
        have i4 : decide ((c : Int) ≤ 57) = false := decide_eq_false (by omega)
        have i5 : (1632 : Int) ≤ (c : Int) := by omega
        have i6 : decide ((c : Int) ≤ 1641) = false := decide_eq_false (by omega)
        clear j1 h1 h2 h3
        go_enter Tryz.func96, Tryz.ntmps96
        go_wp2
        go_ret
        exact ⟨rfl, rfl⟩
      · rw [if_neg h3]
        have key : ∀ x y : Int, ¬ (x ≤ (c : Int) ∧ (c : Int) ≤ y) → (decide (x ≤ (c : Int)) = false) ∨ (decide (x ≤ (c : Int)) = true ∧ decide ((c : Int) ≤ y) = false) := fun x y g => by
          by_cases hx : x ≤ (c : Int)
          · exact .inr ⟨decide_eq_true hx, decide_eq_false (fun hy => g ⟨hx, hy⟩)⟩
          · exact .inl (decide_eq_false hx)
        have k1 := key 48 57 (by omega)
        have k2 := key 1632 1641 (by omega)
        have k3 := key 65296 65305 (by omega)
        clear j1 h1 h2 h3 key
        rcases k1 with k1 | ⟨k1, k1'⟩ <;> rcases k2 with k2 | ⟨k2, k2'⟩ <;> rcases k3 with k3 | ⟨k3, k3'⟩
        all_goals
          go_enter Tryz.func96, Tryz.ntmps96
          go_wp2
          go_ret
          exact ⟨rfl, rfl⟩
/-- A row of characters that can be read. -/
def RdC (w : World) (v : Value) (l : List Chr) : Prop := ∃ ao cap, v = .slice ao l.length cap ∧ l.length ≤ cap ∧ ∀ i t, l[i]? = some t → ∃ g o, ao = some ⟨g, o, none⟩ ∧ g < w.heap.size ∧ w.cell? ⟨g, o + i * 4, none⟩ = some (.int .i32 (t.r : Int)) ∧ w.cell? ⟨g, o + i * 4 + 1, none⟩ = some (.int .i64 (t.a : Int)) ∧ w.cell? ⟨g, o + i * 4 + 2, none⟩ = some (.int .i64 (t.z : Int)) ∧ w.cell? ⟨g, o + i * 4 + 3, none⟩ = some (.bool t.b)
theorem RdC.only {w w' : World} {v : Value} {l : List Chr} (h : RdC w v l) (o : Only (fun _ => False) w w') : RdC w' v l := by
  obtain ⟨ao, cap, e, hc, h⟩ := h
  refine ⟨ao, cap, e, hc, fun i t ht => ?_⟩
  obtain ⟨g, oo, e1, hg, c0, c1, c2, c3⟩ := h i t ht
  exact ⟨g, oo, e1, Nat.lt_of_lt_of_le hg o.size, o.cell c0 (fun x => x), o.cell c1 (fun x => x), o.cell c2 (fun x => x), o.cell c3 (fun x => x)⟩
theorem rdc_chr {w : World} {B : Nat} {v : Value} {l : List Chr} (h : ChrAt w B v l) : RdC w v l := by
  obtain ⟨ao, cap, rfl⟩ := h.1
  have hc : l.length ≤ cap := by
    rcases h.2.2 with ⟨e, e2⟩ | ⟨g, cap', cur, fz, hv, _, _, _, hcap, _⟩
    · injection e with e1 e3 e4
      omega
    · injection hv with e1 e3 e4
      omega
  refine ⟨ao, cap, rfl, hc, fun i t ht => ?_⟩
  obtain ⟨g, cap', hv, _, hg, c0, c1, c2, c3⟩ := chr_cells h ht
  injection hv with e1 e2 e3
  exact ⟨g, 0, e1, hg, by rw [Nat.zero_add]; exact c0, by rw [Nat.zero_add]; exact c1, by rw [Nat.zero_add]; exact c2, by rw [Nat.zero_add]; exact c3⟩
/-- The digits of one script, from the first on. -/
def rnum (nt : Nat) : List Nat → Nat → Nat × Bool
  | [], n => (n, true)
  | c :: l, n => if rs c ≠ nt then (0, false) else rnum nt l (min (10 * n + (c - rs c)) 1152921504606846977)
def rminus (l : List Nat) : Bool := decide (l.head? = some 45 ∨ l.head? = some 8722)
def rrest (l : List Nat) : List Nat := if rminus l then l.tail else l
def rnumM (mn : Bool) : List Nat → Nat × Bool × Bool
  | [] => (0, mn, false)
  | c :: r => if rs c = 0 then (0, mn, false) else ((rnum (rs c) (c :: r) 0).1, mn, (rnum (rs c) (c :: r) 0).2)
def rnumL (l : List Nat) : Nat × Bool × Bool := rnumM (rminus l) (rrest l)
theorem rs_digit {c : Nat} (h : rs c ≠ 0) : rs c ≤ c ∧ c - rs c ≤ 9 := by
  unfold rs at h ⊢
  split
  · omega
  · split
    · omega
    · split
      · omega
      · rename_i h1 h2 h3
        simp [h1, h2, h3] at h
end Go.Proofs.YtapehdolnljnoaaGreatDoor
namespace Go.Proofs.YtapehdolnljnoaaGreatDoor
open Go.RowKit Go.Lib
set_option linter.unusedSimpArgs false
set_option linter.unusedVariables false
def rnV (x : Nat × Bool × Bool) : Value := .tuple #[.int .u64 (x.1 : Int), .bool x.2.1, .bool x.2.2]
theorem chr_rest (g o k c : Nat) (hk : 1 ≤ k) (hc : k ≤ c) : ∃ a2 c2, (∀ w, (Instr.slice 127 (.slice (some ⟨g, o, none⟩) k c) (some (.int .i64 1)) none none).run Tryz.prog w = .ok (.slice a2 (k - 1) c2) w) ∧ (a2 = some ⟨g, o + 4, none⟩ ∨ k = 1) ∧ k - 1 ≤ c2 := by
  have k0 : (1 : Int) ≤ (k : Int) := by omega
  have kc : (k : Int) ≤ (c : Int) := by omega
  have e1 : ((k : Int) - 1).toNat = k - 1 := by omega
  have e2 : ((c : Int) - 1).toNat = c - 1 := by omega
  by_cases e : c = 1
  · have ek : k = 1 := by omega
    subst e ek
    exact ⟨some ⟨g, o, none⟩, 0, fun w => by go_simp, .inr rfl, by omega⟩
  · have ec : ¬ c - 1 = 0 := by omega
    refine ⟨some ⟨g, o + 4, none⟩, c - 1, fun w => ?_, .inl rfl, by omega⟩
    go_simp
set_option maxRecDepth 100000 in
set_option maxHeartbeats 1000000 in
theorem rnumber_any (l : List Chr) (hl : l.length ≤ 4000000) (v : Value) (w : World) (h : RdC w v l) :
    Calls Tryz.prog 58 #[v] w fun e w' => e = .returned (rnV (rnumL (l.map (·.r)))) ∧ Only (fun _ => False) w w' := by
  obtain ⟨ao, cap, rfl, hcap, fL⟩ := h
  obtain ⟨Z, hZ⟩ : ∃ Z, Z = rnumL (l.map (·.r)) := ⟨_, rfl⟩
  rw [← hZ]
  have O0 : Hid (Only (fun _ => False) w w) := Only.refl _ _
  by_cases hmin : rminus (l.map (·.r)) = true
  · obtain ⟨t1, L, hlL⟩ : ∃ t1 L, l = t1 :: L := by
      cases l with
      | nil => simp [rminus] at hmin
      | cons x y => exact ⟨x, y, rfl⟩
    have HZ : Hid (Z = rnumM true (L.map (·.r))) := by
      show Z = _
      rw [hZ]
      unfold rnumL rrest
      rw [if_pos hmin, hmin, hlL]
      rfl
    have hsign : t1.r = 45 ∨ t1.r = 8722 := by
      rw [hlL] at hmin
      simpa [rminus] using hmin
    clear hZ hmin
    subst hlL
    obtain ⟨g1, o1, rfl, hg1, z0, _, _, _⟩ := fL 0 t1 rfl
    simp only [Nat.zero_mul, Nat.add_zero] at z0
    obtain ⟨K, hK⟩ : ∃ K, K = (t1 :: L).length := ⟨_, rfl⟩
    have hKL : K - 1 = L.length := by rw [hK]; simp
    rw [← hK] at hcap hl ⊢
    have hK1 : 1 ≤ K := by rw [hK]; simp
    obtain ⟨ao, cap2, hsl, hao, hcap2⟩ := chr_rest g1 o1 K cap hK1 hcap
    rw [hKL] at hsl hcap2
    have fL2 : ∀ i t, L[i]? = some t → ∃ g o, ao = some ⟨g, o, none⟩ ∧ g < w.heap.size ∧ w.cell? ⟨g, o + i * 4, none⟩ = some (.int .i32 (t.r : Int)) ∧ w.cell? ⟨g, o + i * 4 + 1, none⟩ = some (.int .i64 (t.a : Int)) ∧ w.cell? ⟨g, o + i * 4 + 2, none⟩ = some (.int .i64 (t.z : Int)) ∧ w.cell? ⟨g, o + i * 4 + 3, none⟩ = some (.bool t.b) := fun i t ht => by
      have hi : i < L.length := (List.getElem?_eq_some_iff.1 ht).1
      obtain ⟨g, o, e, hg, c⟩ := fL (i + 1) t (by simpa using ht)
      injection e with e
      injection e with e1 e2
      subst e1
      subst e2
      refine ⟨g1, o1 + 4, by rcases hao with h | h <;> first | exact h | omega, hg, ?_⟩
      rw [show o1 + 4 + i * 4 = o1 + (i + 1) * 4 by omega]
      exact c
    have hl2 : L.length ≤ 4000000 := by omega
    have hN0 : (0 : Int) < (K : Int) := by omega
    clear fL hao hK hKL
    obtain ⟨fL, hl3⟩ : (∀ i t, L[i]? = some t → ∃ g o, ao = some ⟨g, o, none⟩ ∧ g < w.heap.size ∧ w.cell? ⟨g, o + i * 4, none⟩ = some (.int .i32 (t.r : Int)) ∧ w.cell? ⟨g, o + i * 4 + 1, none⟩ = some (.int .i64 (t.a : Int)) ∧ w.cell? ⟨g, o + i * 4 + 2, none⟩ = some (.int .i64 (t.z : Int)) ∧ w.cell? ⟨g, o + i * 4 + 3, none⟩ = some (.bool t.b)) ∧ True := ⟨fL2, trivial⟩
    clear fL2 hl3
    obtain ⟨cs, hcs⟩ : ∃ cs, cs = t1.r := ⟨_, rfl⟩
    rw [← hcs] at z0 hsign
    clear hcs
    rcases hsign with hsg | hsg
    · have s45 : ((cs : Int) == 45) = true := by rw [hsg]; rfl
      clear hsg
      obtain hL | ⟨t0, L', hL⟩ : L = [] ∨ ∃ t0 L', L = t0 :: L' := by
        cases L with
        | nil => exact .inl rfl
        | cons x y => exact .inr ⟨x, y, rfl⟩
      · subst hL
        have HE : Hid (Z = (0, true, false)) := HZ.out
        go_enter Tryz.func58, Tryz.ntmps58
        go_wp2
        go_ret3
        exact ⟨by rw [show Z = _ from HE.out]; rfl, O0.out⟩
      · have h0 : L[0]? = some t0 := by rw [hL]; rfl
        have hlen : 0 < L.length := by rw [hL]; simp
        skip
        obtain ⟨g, o, rfl, hg, x0, x1, x2, x3⟩ := fL 0 t0 h0
        simp only [Nat.zero_mul, Nat.add_zero] at x0
        obtain ⟨F, hF⟩ : ∃ F : Nat → Nat, F = rs := ⟨_, rfl⟩
        have HSc : Hid (∀ (c : Nat) w1, Calls Tryz.prog 96 #[.int .i32 (c : Int)] w1 fun e w' => e = .returned (.int .i32 (F c : Int)) ∧ w' = w1) := fun c w1 => by rw [hF]; exact rscript_any c w1
        have HFd : Hid (∀ c, F c ≠ 0 → F c ≤ c ∧ c - F c ≤ 9) := fun c => by rw [hF]; exact rs_digit
        have HFr : Hid (F = rs) := hF
        obtain ⟨m, hm⟩ : ∃ m, m = L.length := ⟨_, rfl⟩
        obtain ⟨c0, hc0⟩ : ∃ c0, c0 = t0.r := ⟨_, rfl⟩
        obtain ⟨s0, hs0⟩ : ∃ s0, s0 = F c0 := ⟨_, rfl⟩
        have HZ2 : Hid (Z = if rs c0 = 0 then (0, true, false) else ((rnum (rs c0) (L.map (·.r)) 0).1, true, (rnum (rs c0) (L.map (·.r)) 0).2)) := by
          show Z = _
          rw [HZ.out, hL, hc0]
          rfl
        rw [← hc0] at x0
        rw [← hF, ← hs0] at HZ2
        have HS00 : Hid (s0 = F c0) := hs0
        have hm0 : (0 : Int) < (m : Int) := by omega
        have hm1 : ((m : Int) == 0) = false := by simp; omega
        have hmm : m ≤ 4000000 := by omega
        have HMm : Hid (m = L.length) := hm
        have HF : Hid (∀ i t, L[i]? = some t → ∃ g' o', some (⟨g, o, none⟩ : Addr) = some ⟨g', o', none⟩ ∧ g' < w.heap.size ∧ w.cell? ⟨g', o' + i * 4, none⟩ = some (.int .i32 (t.r : Int)) ∧ w.cell? ⟨g', o' + i * 4 + 1, none⟩ = some (.int .i64 (t.a : Int)) ∧ w.cell? ⟨g', o' + i * 4 + 2, none⟩ = some (.int .i64 (t.z : Int)) ∧ w.cell? ⟨g', o' + i * 4 + 3, none⟩ = some (.bool t.b)) := fL
        rw [← hm] at hsl hcap2
        clear fL h0 x1 x2 x3 hg hL hm hlen hc0 HZ hF
        subst hs0
        clear HS00
        go_enter Tryz.func58, Tryz.ntmps58
        by_cases hz0 : F c0 = 0
        · have HE : Hid (Z = (0, true, false)) := by
            show Z = _
            rw [HZ2.out, if_pos hz0]
          have hb0 : ((F c0 : Int) == 0) = true := by rw [hz0]; rfl
          clear HZ2 hz0
          go_wp2_with fail
          refine (show Calls Tryz.prog 96 _ _ _ from HSc.out c0 _).mono ?_
          rintro e1 w1 ⟨rfl, hw1⟩
          subst w1
          go_wp2
          go_ret3
          exact ⟨by rw [show Z = _ from HE.out]; rfl, O0.out⟩
        · have hb0 : ((F c0 : Int) == 0) = false := by simp; omega
          have HE : Hid (Z = ((rnum (F c0) (L.map (·.r)) 0).1, true, (rnum (F c0) (L.map (·.r)) 0).2)) := by
            show Z = _
            rw [HZ2.out, if_neg hz0]
          clear HZ2
          go_wp2_with fail
          refine (show Calls Tryz.prog 96 _ _ _ from HSc.out c0 _).mono ?_
          rintro e1 w1 ⟨rfl, hw1⟩
          subst w1
          go_wp2
          go_loopw [2, 3, 5] (fun r2 r3 r5 wr => ∃ (k n : Nat), k ≤ m ∧ n ≤ 1152921504606846977 ∧ r2 = .int .u64 (n : Int) ∧ r3 = .bool true ∧ r5 = .int .i64 (k : Int) ∧ Hid (Only (fun _ => False) w wr ∧ Z = ((rnum (F c0) ((L.drop k).map (·.r)) n).1, true, (rnum (F c0) ((L.drop k).map (·.r)) n).2))) (fun _ _ r5 _ => m - uOf r5)
          case atStart => exact ⟨0, 0, Nat.zero_le _, by omega, rfl, rfl, rfl, Only.refl _ _, HE.out⟩
          case round =>
            obtain ⟨k, n, hk, hn, rfl, rfl, rfl, HI⟩ := hrel
            obtain ⟨w5, rfl⟩ : ∃ w5, w5 = wr := ⟨_, rfl⟩
            clear HE
            by_cases hlt : k < m
            · have hlt2 : k < L.length := by have : m = L.length := HMm.out; omega
              obtain ⟨t, ht⟩ : ∃ t, t = L[k]'hlt2 := ⟨_, rfl⟩
              have ht2 : L[k]? = some t := by rw [ht]; exact List.getElem?_eq_getElem _
              obtain ⟨g', o', eg, hg', y0, _, _, _⟩ := HF.out k t ht2
              injection eg with eg
              injection eg with eg1 eg2
              subst eg1
              subst eg2
              have X0 := HI.out.1.cell x0 (fun x => x)
              have Y0 := HI.out.1.cell y0 (fun x => x)
              have hd : L.drop k = t :: L.drop (k + 1) := by
                rw [ht]
                exact List.drop_eq_getElem_cons hlt2
              have hst := HFd.out t.r
              obtain ⟨c, hc⟩ : ∃ c, c = t.r := ⟨_, rfl⟩
              have HZ3 : Hid (Z = if F c ≠ F c0 then (0, true, false) else ((rnum (F c0) ((L.drop (k + 1)).map (·.r)) (min (10 * n + (c - F c)) 1152921504606846977)).1, true, (rnum (F c0) ((L.drop (k + 1)).map (·.r)) (min (10 * n + (c - F c)) 1152921504606846977)).2)) := by
                show Z = _
                rw [HI.out.2, hd, List.map_cons, rnum, ← hc, show rs = F from HFr.out.symm]
                split <;> rfl
              rw [← hc] at Y0 hst
              have HO : Hid (Only (fun _ => False) w w5) := HI.out.1
              clear HI hd ht ht2 y0 hc hlt2
              have k0 : (0 : Int) ≤ (k : Int) := Int.natCast_nonneg _
              have k1 : (k : Int) < (m : Int) := by omega
              by_cases hqs : F c = F c0
              · have hst2 := hst (by rw [hqs]; exact hz0)
                have HZ4 : Hid (Z = ((rnum (F c0) ((L.drop (k + 1)).map (·.r)) (min (10 * n + (c - F c)) 1152921504606846977)).1, true, (rnum (F c0) ((L.drop (k + 1)).map (·.r)) (min (10 * n + (c - F c)) 1152921504606846977)).2)) := by
                  show Z = _
                  rw [HZ3.out, if_neg (by simp [hqs])]
                have hqb : ((F c : Int) == (F c0 : Int)) = true := by rw [hqs]; simp
                clear HZ3 hst hqs
                go_wp2_with fail
                go_quiet (first | (go_at_call 96; refine Calls.quiet_of_same (HSc.out _ _)))
                go_wp2_with fail
                obtain ⟨W6, hW6⟩ : ∃ W6, W6 = w5.drewN nq := ⟨_, rfl⟩
                rw [← hW6]
                have Y6 : W6.cell? ⟨g, o + k * 4, none⟩ = some (.int .i32 (c : Int)) := by rw [hW6]; exact Y0
                have HO6 : Hid (Only (fun _ => False) w W6) := by rw [hW6]; exact HO.out.drewN _
                clear hW6 X0 Y0 HO hqb
                have r1 : IntKind.i32.wrap ((c : Int) - (F c : Int)) = ((c - F c : Nat) : Int) := by rw [IntKind.wrap_i32]; omega
                have r2 : IntKind.u64.wrap ((c - F c : Nat) : Int) = ((c - F c : Nat) : Int) := by rw [IntKind.wrap_u64]; omega
                have r3 : IntKind.u64.wrap (10 * (n : Int)) = 10 * (n : Int) := by rw [IntKind.wrap_u64]; omega
                have r4 : IntKind.u64.wrap (10 * (n : Int) + ((c - F c : Nat) : Int)) = 10 * (n : Int) + ((c - F c : Nat) : Int) := by rw [IntKind.wrap_u64]; omega
                go_quiet (first | (go_at_call 96; refine Calls.quiet_of_same (HSc.out _ _)))
                rw [show min (10 * (n : Int) + ((c - F c : Nat) : Int)) 1152921504606846977 = ((min (10 * n + (c - F c)) 1152921504606846977 : Nat) : Int) by omega]
                obtain ⟨n2, hn2⟩ : ∃ n2, n2 = min (10 * n + (c - F c)) 1152921504606846977 := ⟨_, rfl⟩
                have hn3 : n2 ≤ 1152921504606846977 := by omega
                rw [← hn2] at HZ4 ⊢
                clear hn2 r1 r2 r3 r4
                go_wp2
                go_roundw
                case rel => exact ⟨k + 1, n2, by omega, hn3, rfl, rfl, by go_num, HO6.out.drewN _, HZ4.out⟩
                case measure => simp only [uOf]; omega
              · have hqb : ((F c : Int) == (F c0 : Int)) = false := by simp; omega
                have HZ4 : Hid (Z = (0, true, false)) := by
                  show Z = _
                  rw [HZ3.out, if_pos hqs]
                clear HZ3 hst hqs
                go_wp2_with fail
                go_quiet (first | (go_at_call 96; refine Calls.quiet_of_same (HSc.out _ _)))
                go_wp2
                go_ret3
                exact ⟨by rw [show Z = _ from HZ4.out]; rfl, HO.out.drewN _⟩
            · have HZ4 : Hid (Z = (n, true, true)) := by
                show Z = _
                rw [HI.out.2, List.drop_eq_nil_of_le (by have : m = L.length := HMm.out; omega)]
                rfl
              have k1 : ¬ (k : Int) < (m : Int) := by omega
              go_wp2
              go_ret3
              exact ⟨by rw [show Z = _ from HZ4.out]; rfl, HI.out.1⟩
    · have s45 : ((cs : Int) == 45) = false := by rw [hsg]; rfl
      have s87 : ((cs : Int) == 8722) = true := by rw [hsg]; rfl
      clear hsg
      obtain hL | ⟨t0, L', hL⟩ : L = [] ∨ ∃ t0 L', L = t0 :: L' := by
        cases L with
        | nil => exact .inl rfl
        | cons x y => exact .inr ⟨x, y, rfl⟩
      · subst hL
        have HE : Hid (Z = (0, true, false)) := HZ.out
        go_enter Tryz.func58, Tryz.ntmps58
        go_wp2
        go_ret3
        exact ⟨by rw [show Z = _ from HE.out]; rfl, O0.out⟩
      · have h0 : L[0]? = some t0 := by rw [hL]; rfl
        have hlen : 0 < L.length := by rw [hL]; simp
        skip
        obtain ⟨g, o, rfl, hg, x0, x1, x2, x3⟩ := fL 0 t0 h0
        simp only [Nat.zero_mul, Nat.add_zero] at x0
        obtain ⟨F, hF⟩ : ∃ F : Nat → Nat, F = rs := ⟨_, rfl⟩
        have HSc : Hid (∀ (c : Nat) w1, Calls Tryz.prog 96 #[.int .i32 (c : Int)] w1 fun e w' => e = .returned (.int .i32 (F c : Int)) ∧ w' = w1) := fun c w1 => by rw [hF]; exact rscript_any c w1
        have HFd : Hid (∀ c, F c ≠ 0 → F c ≤ c ∧ c - F c ≤ 9) := fun c => by rw [hF]; exact rs_digit
        have HFr : Hid (F = rs) := hF
        obtain ⟨m, hm⟩ : ∃ m, m = L.length := ⟨_, rfl⟩
        obtain ⟨c0, hc0⟩ : ∃ c0, c0 = t0.r := ⟨_, rfl⟩
        obtain ⟨s0, hs0⟩ : ∃ s0, s0 = F c0 := ⟨_, rfl⟩
        have HZ2 : Hid (Z = if rs c0 = 0 then (0, true, false) else ((rnum (rs c0) (L.map (·.r)) 0).1, true, (rnum (rs c0) (L.map (·.r)) 0).2)) := by
          show Z = _
          rw [HZ.out, hL, hc0]
          rfl
        rw [← hc0] at x0
        rw [← hF, ← hs0] at HZ2
        have HS00 : Hid (s0 = F c0) := hs0
        have hm0 : (0 : Int) < (m : Int) := by omega
        have hm1 : ((m : Int) == 0) = false := by simp; omega
        have hmm : m ≤ 4000000 := by omega
        have HMm : Hid (m = L.length) := hm
        have HF : Hid (∀ i t, L[i]? = some t → ∃ g' o', some (⟨g, o, none⟩ : Addr) = some ⟨g', o', none⟩ ∧ g' < w.heap.size ∧ w.cell? ⟨g', o' + i * 4, none⟩ = some (.int .i32 (t.r : Int)) ∧ w.cell? ⟨g', o' + i * 4 + 1, none⟩ = some (.int .i64 (t.a : Int)) ∧ w.cell? ⟨g', o' + i * 4 + 2, none⟩ = some (.int .i64 (t.z : Int)) ∧ w.cell? ⟨g', o' + i * 4 + 3, none⟩ = some (.bool t.b)) := fL
        rw [← hm] at hsl hcap2
        clear fL h0 x1 x2 x3 hg hL hm hlen hc0 HZ hF
        subst hs0
        clear HS00
        go_enter Tryz.func58, Tryz.ntmps58
        by_cases hz0 : F c0 = 0
        · have HE : Hid (Z = (0, true, false)) := by
            show Z = _
            rw [HZ2.out, if_pos hz0]
          have hb0 : ((F c0 : Int) == 0) = true := by rw [hz0]; rfl
          clear HZ2 hz0
          go_wp2_with fail
          refine (show Calls Tryz.prog 96 _ _ _ from HSc.out c0 _).mono ?_
          rintro e1 w1 ⟨rfl, hw1⟩
          subst w1
          go_wp2
          go_ret3
          exact ⟨by rw [show Z = _ from HE.out]; rfl, O0.out⟩
        · have hb0 : ((F c0 : Int) == 0) = false := by simp; omega
          have HE : Hid (Z = ((rnum (F c0) (L.map (·.r)) 0).1, true, (rnum (F c0) (L.map (·.r)) 0).2)) := by
            show Z = _
            rw [HZ2.out, if_neg hz0]
          clear HZ2
          go_wp2_with fail
          refine (show Calls Tryz.prog 96 _ _ _ from HSc.out c0 _).mono ?_
          rintro e1 w1 ⟨rfl, hw1⟩
          subst w1
          go_wp2
          go_loopw [2, 3, 5] (fun r2 r3 r5 wr => ∃ (k n : Nat), k ≤ m ∧ n ≤ 1152921504606846977 ∧ r2 = .int .u64 (n : Int) ∧ r3 = .bool true ∧ r5 = .int .i64 (k : Int) ∧ Hid (Only (fun _ => False) w wr ∧ Z = ((rnum (F c0) ((L.drop k).map (·.r)) n).1, true, (rnum (F c0) ((L.drop k).map (·.r)) n).2))) (fun _ _ r5 _ => m - uOf r5)
          case atStart => exact ⟨0, 0, Nat.zero_le _, by omega, rfl, rfl, rfl, Only.refl _ _, HE.out⟩
          case round =>
            obtain ⟨k, n, hk, hn, rfl, rfl, rfl, HI⟩ := hrel
            obtain ⟨w5, rfl⟩ : ∃ w5, w5 = wr := ⟨_, rfl⟩
            clear HE
            by_cases hlt : k < m
            · have hlt2 : k < L.length := by have : m = L.length := HMm.out; omega
              obtain ⟨t, ht⟩ : ∃ t, t = L[k]'hlt2 := ⟨_, rfl⟩
              have ht2 : L[k]? = some t := by rw [ht]; exact List.getElem?_eq_getElem _
              obtain ⟨g', o', eg, hg', y0, _, _, _⟩ := HF.out k t ht2
              injection eg with eg
              injection eg with eg1 eg2
              subst eg1
              subst eg2
              have X0 := HI.out.1.cell x0 (fun x => x)
              have Y0 := HI.out.1.cell y0 (fun x => x)
              have hd : L.drop k = t :: L.drop (k + 1) := by
                rw [ht]
                exact List.drop_eq_getElem_cons hlt2
              have hst := HFd.out t.r
              obtain ⟨c, hc⟩ : ∃ c, c = t.r := ⟨_, rfl⟩
              have HZ3 : Hid (Z = if F c ≠ F c0 then (0, true, false) else ((rnum (F c0) ((L.drop (k + 1)).map (·.r)) (min (10 * n + (c - F c)) 1152921504606846977)).1, true, (rnum (F c0) ((L.drop (k + 1)).map (·.r)) (min (10 * n + (c - F c)) 1152921504606846977)).2)) := by
                show Z = _
                rw [HI.out.2, hd, List.map_cons, rnum, ← hc, show rs = F from HFr.out.symm]
                split <;> rfl
              rw [← hc] at Y0 hst
              have HO : Hid (Only (fun _ => False) w w5) := HI.out.1
              clear HI hd ht ht2 y0 hc hlt2
              have k0 : (0 : Int) ≤ (k : Int) := Int.natCast_nonneg _
              have k1 : (k : Int) < (m : Int) := by omega
              by_cases hqs : F c = F c0
              · have hst2 := hst (by rw [hqs]; exact hz0)
                have HZ4 : Hid (Z = ((rnum (F c0) ((L.drop (k + 1)).map (·.r)) (min (10 * n + (c - F c)) 1152921504606846977)).1, true, (rnum (F c0) ((L.drop (k + 1)).map (·.r)) (min (10 * n + (c - F c)) 1152921504606846977)).2)) := by
                  show Z = _
                  rw [HZ3.out, if_neg (by simp [hqs])]
                have hqb : ((F c : Int) == (F c0 : Int)) = true := by rw [hqs]; simp
                clear HZ3 hst hqs
                go_wp2_with fail
                go_quiet (first | (go_at_call 96; refine Calls.quiet_of_same (HSc.out _ _)))
                go_wp2_with fail
                obtain ⟨W6, hW6⟩ : ∃ W6, W6 = w5.drewN nq := ⟨_, rfl⟩
                rw [← hW6]
                have Y6 : W6.cell? ⟨g, o + k * 4, none⟩ = some (.int .i32 (c : Int)) := by rw [hW6]; exact Y0
                have HO6 : Hid (Only (fun _ => False) w W6) := by rw [hW6]; exact HO.out.drewN _
                clear hW6 X0 Y0 HO hqb
                have r1 : IntKind.i32.wrap ((c : Int) - (F c : Int)) = ((c - F c : Nat) : Int) := by rw [IntKind.wrap_i32]; omega
                have r2 : IntKind.u64.wrap ((c - F c : Nat) : Int) = ((c - F c : Nat) : Int) := by rw [IntKind.wrap_u64]; omega
                have r3 : IntKind.u64.wrap (10 * (n : Int)) = 10 * (n : Int) := by rw [IntKind.wrap_u64]; omega
                have r4 : IntKind.u64.wrap (10 * (n : Int) + ((c - F c : Nat) : Int)) = 10 * (n : Int) + ((c - F c : Nat) : Int) := by rw [IntKind.wrap_u64]; omega
                go_quiet (first | (go_at_call 96; refine Calls.quiet_of_same (HSc.out _ _)))
                rw [show min (10 * (n : Int) + ((c - F c : Nat) : Int)) 1152921504606846977 = ((min (10 * n + (c - F c)) 1152921504606846977 : Nat) : Int) by omega]
                obtain ⟨n2, hn2⟩ : ∃ n2, n2 = min (10 * n + (c - F c)) 1152921504606846977 := ⟨_, rfl⟩
                have hn3 : n2 ≤ 1152921504606846977 := by omega
                rw [← hn2] at HZ4 ⊢
                clear hn2 r1 r2 r3 r4
                go_wp2
                go_roundw
                case rel => exact ⟨k + 1, n2, by omega, hn3, rfl, rfl, by go_num, HO6.out.drewN _, HZ4.out⟩
                case measure => simp only [uOf]; omega
              · have hqb : ((F c : Int) == (F c0 : Int)) = false := by simp; omega
                have HZ4 : Hid (Z = (0, true, false)) := by
                  show Z = _
                  rw [HZ3.out, if_pos hqs]
                clear HZ3 hst hqs
                go_wp2_with fail
                go_quiet (first | (go_at_call 96; refine Calls.quiet_of_same (HSc.out _ _)))
                go_wp2
                go_ret3
                exact ⟨by rw [show Z = _ from HZ4.out]; rfl, HO.out.drewN _⟩
            · have HZ4 : Hid (Z = (n, true, true)) := by
                show Z = _
                rw [HI.out.2, List.drop_eq_nil_of_le (by have : m = L.length := HMm.out; omega)]
                rfl
              have k1 : ¬ (k : Int) < (m : Int) := by omega
              go_wp2
              go_ret3
              exact ⟨by rw [show Z = _ from HZ4.out]; rfl, HI.out.1⟩
  · have HZ : Hid (Z = rnumM false (l.map (·.r))) := by
      show Z = _
      rw [hZ]
      unfold rnumL rrest
      rw [if_neg hmin, Bool.eq_false_iff.2 hmin]
    have HM : Hid (∀ t, l[0]? = some t → ¬ t.r = 45 ∧ ¬ t.r = 8722) := fun t ht => by
      cases l with
      | nil => simp at ht
      | cons x l =>
        simp only [List.getElem?_cons_zero, Option.some.injEq] at ht
        subst ht
        simp only [rminus, List.map_cons, List.head?_cons, decide_eq_true_eq, Option.some.injEq] at hmin
        omega
    clear hZ hmin
    obtain ⟨L, hLL⟩ : ∃ L, L = l := ⟨_, rfl⟩
    rw [← hLL] at HZ HM fL hcap hl ⊢
    clear hLL
    obtain hL | ⟨t0, L', hL⟩ : L = [] ∨ ∃ t0 L', L = t0 :: L' := by
      cases L with
      | nil => exact .inl rfl
      | cons x y => exact .inr ⟨x, y, rfl⟩
    · subst hL
      have HE : Hid (Z = (0, false, false)) := HZ.out
      go_enter Tryz.func58, Tryz.ntmps58
      go_wp2
      go_ret3
      exact ⟨by rw [show Z = _ from HE.out]; rfl, O0.out⟩
    · have h0 : L[0]? = some t0 := by rw [hL]; rfl
      have hlen : 0 < L.length := by rw [hL]; simp
      obtain ⟨i45, i8722⟩ : ((t0.r : Int) == 45) = false ∧ ((t0.r : Int) == 8722) = false := by have := HM.out t0 h0; simp; omega
      obtain ⟨g, o, rfl, hg, x0, x1, x2, x3⟩ := fL 0 t0 h0
      simp only [Nat.zero_mul, Nat.add_zero] at x0
      obtain ⟨F, hF⟩ : ∃ F : Nat → Nat, F = rs := ⟨_, rfl⟩
      have HSc : Hid (∀ (c : Nat) w1, Calls Tryz.prog 96 #[.int .i32 (c : Int)] w1 fun e w' => e = .returned (.int .i32 (F c : Int)) ∧ w' = w1) := fun c w1 => by rw [hF]; exact rscript_any c w1
      have HFd : Hid (∀ c, F c ≠ 0 → F c ≤ c ∧ c - F c ≤ 9) := fun c => by rw [hF]; exact rs_digit
      have HFr : Hid (F = rs) := hF
      obtain ⟨m, hm⟩ : ∃ m, m = L.length := ⟨_, rfl⟩
      obtain ⟨c0, hc0⟩ : ∃ c0, c0 = t0.r := ⟨_, rfl⟩
      obtain ⟨s0, hs0⟩ : ∃ s0, s0 = F c0 := ⟨_, rfl⟩
      have HZ2 : Hid (Z = if rs c0 = 0 then (0, false, false) else ((rnum (rs c0) (L.map (·.r)) 0).1, false, (rnum (rs c0) (L.map (·.r)) 0).2)) := by
        show Z = _
        rw [HZ.out, hL, hc0]
        rfl
      rw [← hc0] at x0 i45 i8722
      rw [← hF, ← hs0] at HZ2
      have HS00 : Hid (s0 = F c0) := hs0
      have hm0 : (0 : Int) < (m : Int) := by omega
      have hm1 : ((m : Int) == 0) = false := by simp; omega
      have hmm : m ≤ 4000000 := by omega
      have HMm : Hid (m = L.length) := hm
      have HF : Hid (∀ i t, L[i]? = some t → ∃ g' o', some (⟨g, o, none⟩ : Addr) = some ⟨g', o', none⟩ ∧ g' < w.heap.size ∧ w.cell? ⟨g', o' + i * 4, none⟩ = some (.int .i32 (t.r : Int)) ∧ w.cell? ⟨g', o' + i * 4 + 1, none⟩ = some (.int .i64 (t.a : Int)) ∧ w.cell? ⟨g', o' + i * 4 + 2, none⟩ = some (.int .i64 (t.z : Int)) ∧ w.cell? ⟨g', o' + i * 4 + 3, none⟩ = some (.bool t.b)) := fL
      rw [← hm]
      clear fL h0 x1 x2 x3 hg hL hm hlen hc0 HZ hF
      subst hs0
      clear HS00
      go_enter Tryz.func58, Tryz.ntmps58
      by_cases hz0 : F c0 = 0
      · have HE : Hid (Z = (0, false, false)) := by
          show Z = _
          rw [HZ2.out, if_pos hz0]
        have hb0 : ((F c0 : Int) == 0) = true := by rw [hz0]; rfl
        clear HZ2 hz0
        go_wp2_with fail
        refine (show Calls Tryz.prog 96 _ _ _ from HSc.out c0 _).mono ?_
        rintro e1 w1 ⟨rfl, hw1⟩
        subst w1
        go_wp2
        go_ret3
        exact ⟨by rw [show Z = _ from HE.out]; rfl, O0.out⟩
      · have hb0 : ((F c0 : Int) == 0) = false := by simp; omega
        have HE : Hid (Z = ((rnum (F c0) (L.map (·.r)) 0).1, false, (rnum (F c0) (L.map (·.r)) 0).2)) := by
          show Z = _
          rw [HZ2.out, if_neg hz0]
        clear HZ2
        go_wp2_with fail
        refine (show Calls Tryz.prog 96 _ _ _ from HSc.out c0 _).mono ?_
        rintro e1 w1 ⟨rfl, hw1⟩
        subst w1
        go_wp2
        go_loopw [2, 3, 5] (fun r2 r3 r5 wr => ∃ (k n : Nat), k ≤ m ∧ n ≤ 1152921504606846977 ∧ r2 = .int .u64 (n : Int) ∧ r3 = .bool false ∧ r5 = .int .i64 (k : Int) ∧ Hid (Only (fun _ => False) w wr ∧ Z = ((rnum (F c0) ((L.drop k).map (·.r)) n).1, false, (rnum (F c0) ((L.drop k).map (·.r)) n).2))) (fun _ _ r5 _ => m - uOf r5)
        case atStart => exact ⟨0, 0, Nat.zero_le _, by omega, rfl, rfl, rfl, Only.refl _ _, HE.out⟩
        case round =>
          obtain ⟨k, n, hk, hn, rfl, rfl, rfl, HI⟩ := hrel
          obtain ⟨w5, rfl⟩ : ∃ w5, w5 = wr := ⟨_, rfl⟩
          clear HE
          by_cases hlt : k < m
          · have hlt2 : k < L.length := by have : m = L.length := HMm.out; omega
            obtain ⟨t, ht⟩ : ∃ t, t = L[k]'hlt2 := ⟨_, rfl⟩
            have ht2 : L[k]? = some t := by rw [ht]; exact List.getElem?_eq_getElem _
            obtain ⟨g', o', eg, hg', y0, _, _, _⟩ := HF.out k t ht2
            injection eg with eg
            injection eg with eg1 eg2
            subst eg1
            subst eg2
            have X0 := HI.out.1.cell x0 (fun x => x)
            have Y0 := HI.out.1.cell y0 (fun x => x)
            have hd : L.drop k = t :: L.drop (k + 1) := by
              rw [ht]
              exact List.drop_eq_getElem_cons hlt2
            have hst := HFd.out t.r
            obtain ⟨c, hc⟩ : ∃ c, c = t.r := ⟨_, rfl⟩
            have HZ3 : Hid (Z = if F c ≠ F c0 then (0, false, false) else ((rnum (F c0) ((L.drop (k + 1)).map (·.r)) (min (10 * n + (c - F c)) 1152921504606846977)).1, false, (rnum (F c0) ((L.drop (k + 1)).map (·.r)) (min (10 * n + (c - F c)) 1152921504606846977)).2)) := by
              show Z = _
              rw [HI.out.2, hd, List.map_cons, rnum, ← hc, show rs = F from HFr.out.symm]
              split <;> rfl
            rw [← hc] at Y0 hst
            have HO : Hid (Only (fun _ => False) w w5) := HI.out.1
            clear HI hd ht ht2 y0 hc hlt2
            have k0 : (0 : Int) ≤ (k : Int) := Int.natCast_nonneg _
            have k1 : (k : Int) < (m : Int) := by omega
            by_cases hqs : F c = F c0
            · have hst2 := hst (by rw [hqs]; exact hz0)
              have HZ4 : Hid (Z = ((rnum (F c0) ((L.drop (k + 1)).map (·.r)) (min (10 * n + (c - F c)) 1152921504606846977)).1, false, (rnum (F c0) ((L.drop (k + 1)).map (·.r)) (min (10 * n + (c - F c)) 1152921504606846977)).2)) := by
                show Z = _
                rw [HZ3.out, if_neg (by simp [hqs])]
              have hqb : ((F c : Int) == (F c0 : Int)) = true := by rw [hqs]; simp
              clear HZ3 hst hqs
              go_wp2_with fail
              go_quiet (first | (go_at_call 96; refine Calls.quiet_of_same (HSc.out _ _)))
              go_wp2_with fail
              obtain ⟨W6, hW6⟩ : ∃ W6, W6 = w5.drewN nq := ⟨_, rfl⟩
              rw [← hW6]
              have Y6 : W6.cell? ⟨g, o + k * 4, none⟩ = some (.int .i32 (c : Int)) := by rw [hW6]; exact Y0
              have HO6 : Hid (Only (fun _ => False) w W6) := by rw [hW6]; exact HO.out.drewN _
              clear hW6 X0 Y0 HO hqb
              have r1 : IntKind.i32.wrap ((c : Int) - (F c : Int)) = ((c - F c : Nat) : Int) := by rw [IntKind.wrap_i32]; omega
              have r2 : IntKind.u64.wrap ((c - F c : Nat) : Int) = ((c - F c : Nat) : Int) := by rw [IntKind.wrap_u64]; omega
              have r3 : IntKind.u64.wrap (10 * (n : Int)) = 10 * (n : Int) := by rw [IntKind.wrap_u64]; omega
              have r4 : IntKind.u64.wrap (10 * (n : Int) + ((c - F c : Nat) : Int)) = 10 * (n : Int) + ((c - F c : Nat) : Int) := by rw [IntKind.wrap_u64]; omega
              go_quiet (first | (go_at_call 96; refine Calls.quiet_of_same (HSc.out _ _)))
              rw [show min (10 * (n : Int) + ((c - F c : Nat) : Int)) 1152921504606846977 = ((min (10 * n + (c - F c)) 1152921504606846977 : Nat) : Int) by omega]
              obtain ⟨n2, hn2⟩ : ∃ n2, n2 = min (10 * n + (c - F c)) 1152921504606846977 := ⟨_, rfl⟩
              have hn3 : n2 ≤ 1152921504606846977 := by omega
              rw [← hn2] at HZ4 ⊢
              clear hn2 r1 r2 r3 r4
              go_wp2
              go_roundw
              case rel => exact ⟨k + 1, n2, by omega, hn3, rfl, rfl, by go_num, HO6.out.drewN _, HZ4.out⟩
              case measure => simp only [uOf]; omega
            · have hqb : ((F c : Int) == (F c0 : Int)) = false := by simp; omega
              have HZ4 : Hid (Z = (0, false, false)) := by
                show Z = _
                rw [HZ3.out, if_pos hqs]
              clear HZ3 hst hqs
              go_wp2_with fail
              go_quiet (first | (go_at_call 96; refine Calls.quiet_of_same (HSc.out _ _)))
              go_wp2
              go_ret3
              exact ⟨by rw [show Z = _ from HZ4.out]; rfl, HO.out.drewN _⟩
          · have HZ4 : Hid (Z = (n, false, true)) := by
              show Z = _
              rw [HI.out.2, List.drop_eq_nil_of_le (by have : m = L.length := HMm.out; omega)]
              rfl
            have k1 : ¬ (k : Int) < (m : Int) := by omega
            go_wp2
            go_ret3
            exact ⟨by rw [show Z = _ from HZ4.out]; rfl, HI.out.1⟩
end Go.Proofs.YtapehdolnljnoaaGreatDoor
namespace Go.Proofs.YtapehdolnljnoaaGreatDoor
open Go.RowKit Go.Lib
set_option linter.unusedSimpArgs false
set_option linter.unusedVariables false
theorem chr_runes (s : ByteArray) : (chrL s).map (·.r) = rns s := by
  unfold chrL rns
  rw [List.map_map]
  apply List.map_congr_left
  intro x _
  simp only [Function.comp, chr1]
  split <;> rfl
/-- The characters behind a place, as a text of its own. -/
theorem crs_tail (s : ByteArray) (n : Nat) (hn : n ≤ s.size) : ∀ (b pos : Nat), (crs (s.extract n s.size) b pos).map (·.2) = (crs s b (n + pos)).map (·.2)
  | 0, pos => rfl
  | b + 1, pos => by
    have hz : (s.extract n s.size).size = s.size - n := by rw [ByteArray.size_extract]; omega
    by_cases hp : n + pos < s.size
    · rw [show crs s (b + 1) (n + pos) = (n + pos, (Utf8.decode s (n + pos)).1) :: crs s b (n + pos + (Utf8.decode s (n + pos)).2) by simp [crs, hp]]
      rw [show crs (s.extract n s.size) (b + 1) pos = (pos, (Utf8.decode (s.extract n s.size) pos).1) :: crs (s.extract n s.size) b (pos + (Utf8.decode (s.extract n s.size) pos).2) by simp [crs, hz]; omega]
      rw [tail_decode, List.map_cons, List.map_cons, crs_tail s n hn b, Nat.add_assoc]
    · rw [crs_end (by omega), crs_end (by omega)]
theorem crs_fuel (s : ByteArray) : ∀ (b b' pos : Nat), s.size ≤ pos + b → s.size ≤ pos + b' → crs s b pos = crs s b' pos
  | b, b', pos, h, h' => by
    induction b generalizing b' pos with
    | zero => rw [crs_end (by omega), crs_end (by omega)]
    | succ b ih =>
      by_cases hp : pos < s.size
      · have := wid_pos s pos hp
        obtain ⟨b2, rfl⟩ : ∃ k, b' = k + 1 := ⟨b' - 1, by omega⟩
        rw [show crs s (b + 1) pos = (pos, (Utf8.decode s pos).1) :: crs s b (pos + (Utf8.decode s pos).2) by simp [crs, hp], show crs s (b2 + 1) pos = (pos, (Utf8.decode s pos).1) :: crs s b2 (pos + (Utf8.decode s pos).2) by simp [crs, hp], ih b2 _ (by omega) (by omega)]
      · rw [crs_end hp, crs_end hp]
theorem rns_nil {s : ByteArray} (h : s.size = 0) : rns s = [] := by
  unfold rns chs
  rw [crs_end (by omega)]
  rfl
theorem rns_cons {s : ByteArray} (h : 0 < s.size) : rns s = (Utf8.decode s 0).1 :: rns (s.extract (Utf8.decode s 0).2 s.size) := by
  have hw := wid_pos s 0 h
  have hwd := decode_wd s 0 h
  have hz : (s.extract (Utf8.decode s 0).2 s.size).size = s.size - (Utf8.decode s 0).2 := by rw [ByteArray.size_extract]; omega
  obtain ⟨b, hb, e⟩ := crs_go (s := s) (b := s.size) (pos := 0) h (by omega)
  unfold rns chs
  rw [e, List.map_cons, crs_tail s _ (by omega), Nat.add_zero, hz, Nat.zero_add]
  congr 2
  exact crs_fuel s _ _ _ (by omega) (by omega)
/-- A text begins with a character. -/
theorem pre_rune (s : ByteArray) {c : Nat} (hc : Vr c) (hb : c ≠ 65533) : preB s (tx [c]) = decide ((rns s).head? = some c) := by
  have hw := wr_pos c
  have hts : (tx [c]).size = wr c := by rw [tx_size, wl_cons, wl_nil, Nat.add_zero]
  have htd : (tx [c]).data.toList = encodeRune (c : Int) := by rw [tx_data]; simp [enL]
  rw [Bool.eq_iff_iff, decide_eq_true_iff]
  constructor
  · intro h
    have ht := pre_take h
    rw [hts, htd] at ht
    have hs : 0 < s.size := by have := preB_le h; omega
    have e3 : s.data.toList = encodeRune (c : Int) ++ s.data.toList.drop (wr c) := by
      rw [← ht]
      exact (List.take_append_drop _ _).symm
    have hd := decodeL_drop s 0
    rw [List.drop_zero, e3, decodeL_enc hc] at hd
    rw [rns_cons hs, ← hd]
    rfl
  · intro h
    by_cases hs : 0 < s.size
    · rw [rns_cons hs] at h
      simp only [List.head?_cons, Option.some.injEq] at h
      have hd := decodeL_drop s 0
      rw [List.drop_zero] at hd
      have hne : s.data.toList ≠ [] := by
        intro g
        have := congrArg List.length g
        rw [Array.length_toList] at this
        have : s.size = 0 := this
        omega
      have he := encode_decode s.data.toList hne (by rw [hd, h]; intro g; exact hb g.1)
      rw [hd, h] at he
      have hle := decodeL_le s.data.toList hne
      rw [hd] at hle
      have hl : wr c = (Utf8.decode s 0).2 := by
        unfold wr
        rw [he, List.length_take]
        omega
      unfold preB
      rw [hts]
      have hsz : s.data.toList.length = s.size := Array.length_toList
      rw [decide_eq_true (by omega : wr c ≤ s.size), Bool.true_and, beq_iff_eq, ByteArray.toList_eq, ByteArray.toList_eq, htd, he, ← hl, ByteArray.data_extract, Array.toList_extract]
      simp
    · rw [rns_nil (by omega)] at h
      simp at h
theorem hy_tx : hyB = tx [45] := rfl
theorem mi_tx : miB = tx [8722] := rfl
theorem sgn_runes (s : ByteArray) : rns (sgn s).1 = rrest (rns s) ∧ (sgn s).2 = rminus (rns s) := by
  unfold sgn rrest
  have h1 := pre_rune s (c := 45) (.inl (by decide)) (by decide)
  have h2 := pre_rune s (c := 8722) (.inl (by decide)) (by decide)
  rw [← hy_tx] at h1
  rw [← mi_tx] at h2
  rw [h1, h2]
  by_cases g1 : (rns s).head? = some 45
  · have hm : rminus (rns s) = true := by unfold rminus; exact decide_eq_true (.inl g1)
    rw [if_pos (by simpa using g1), hm, if_pos rfl]
    refine ⟨?_, rfl⟩
    have hs : 0 < s.size := by
      rcases Nat.eq_zero_or_pos s.size with h | h
      · rw [rns_nil h] at g1; simp at g1
      · exact h
    have e := rns_cons hs
    rw [e] at g1
    simp only [List.head?_cons, Option.some.injEq] at g1
    have hd : (Utf8.decode s 0).2 = 1 := by
      by_cases ha : (s[0]'hs).toNat < 128
      · rw [decode_ascii s 0 hs ha]
      · have := (decode_high s 0 hs (by omega)).1
        omega
    rw [e, hd]
    rfl
  · rw [if_neg (by simpa using g1)]
    by_cases g2 : (rns s).head? = some 8722
    · have hm : rminus (rns s) = true := by unfold rminus; exact decide_eq_true (.inr g2)
      rw [if_pos (by simpa using g2), hm, if_pos rfl]
      refine ⟨?_, rfl⟩
      have hs : 0 < s.size := by
        rcases Nat.eq_zero_or_pos s.size with h | h
        · rw [rns_nil h] at g2; simp at g2
        · exact h
      have e := rns_cons hs
      have hp : preB s (tx [8722]) = true := by rw [← mi_tx, h2]; simpa using g2
      have ht := pre_take hp
      have hd : (Utf8.decode s 0).2 = 3 := by
        have e3 : s.data.toList = encodeRune ((8722 : Nat) : Int) ++ s.data.toList.drop 3 := by
          have : encodeRune ((8722 : Nat) : Int) = (tx [8722]).data.toList := rfl
          rw [this, ← ht]
          exact (List.take_append_drop _ _).symm
        have hd := decodeL_drop s 0
        rw [List.drop_zero, e3, decodeL_enc (.inl (by decide))] at hd
        rw [← hd]
        rfl
      rw [e, hd]
      rfl
    · have hm : rminus (rns s) = false := by unfold rminus; exact decide_eq_false (fun g => g.elim g1 g2)
      rw [if_neg (by simpa using g2), hm, if_neg (by simp)]
      exact ⟨rfl, rfl⟩
theorem scr_rs (c : Nat) : scr (c : Int) = if rs c = 0 then none else some (rs c : Int) := by
  unfold scr rs inS
  simp only [decide_eq_true_eq]
  by_cases h1 : 48 ≤ c ∧ c ≤ 57
  · rw [if_pos (by omega), if_pos h1]; rfl
  · rw [if_neg (by omega), if_neg h1]
    by_cases h2 : 1632 ≤ c ∧ c ≤ 1641
    · rw [if_pos (by omega), if_pos h2]; rfl
    · rw [if_neg (by omega), if_neg h2]
      by_cases h3 : 65296 ≤ c ∧ c ≤ 65305
      · rw [if_pos (by omega), if_pos h3]; rfl
      · rw [if_neg (by omega), if_neg h3]; rfl
theorem ins_rs (c d : Nat) (h : rs d ≠ 0) : inS (c : Int) (rs d : Int) = decide (rs c = rs d) := by
  unfold inS
  rw [Bool.eq_iff_iff, decide_eq_true_iff, decide_eq_true_iff]
  unfold rs at h ⊢
  by_cases h1 : 48 ≤ d ∧ d ≤ 57
  · simp only [if_pos h1] at h ⊢
    constructor
    · intro g; rw [if_pos (by omega)]
    · intro g
      split at g
      · omega
      · split at g
        · omega
        · split at g <;> omega
  · simp only [if_neg h1] at h ⊢
    by_cases h2 : 1632 ≤ d ∧ d ≤ 1641
    · simp only [if_pos h2] at h ⊢
      constructor
      · intro g; rw [if_neg (by omega), if_pos (by omega)]
      · intro g
        split at g
        · omega
        · split at g
          · omega
          · split at g <;> omega
    · simp only [if_neg h2] at h ⊢
      by_cases h3 : 65296 ≤ d ∧ d ≤ 65305
      · simp only [if_pos h3] at h ⊢
        constructor
        · intro g; rw [if_neg (by omega), if_neg (by omega), if_pos (by omega)]
        · intro g
          split at g
          · omega
          · split at g
            · omega
            · split at g <;> omega
      · simp only [if_neg h3] at h
        exact absurd rfl h
theorem nat_rnum (d : Nat) (hd : rs d ≠ 0) : ∀ (l : List Nat) (np nr : Nat), nr = min np 1152921504606846977 → (natL l (rs d : Int) true np).2 = (rnum (rs d) l nr).2 ∧ ((rnum (rs d) l nr).2 = true → (rnum (rs d) l nr).1 = min (natL l (rs d : Int) true np).1 1152921504606846977)
  | [], np, nr, h => ⟨rfl, fun _ => h⟩
  | c :: l, np, nr, h => by
    rw [natL, rnum, ins_rs c d hd]
    by_cases hc : rs c = rs d
    · rw [if_pos (by simpa using hc), if_neg (by simpa using hc)]
      have hdg := rs_digit (c := c) (by rw [hc]; exact hd)
      refine nat_rnum d hd l _ _ ?_
      unfold dig
      rw [hc] at hdg ⊢
      split
      · omega
      · omega
    · rw [if_neg (by simpa using hc), if_pos hc]
      exact ⟨rfl, fun g => by simp at g⟩
/-- What the document's Number answers. -/
def rNumR (s : ByteArray) : Int × Int :=
  if (rnumL (rns s)).2.2 = false then (0, 9)
  else if (rnumL (rns s)).2.1 = true ∧ (rnumL (rns s)).1 ≤ 1152921504606846976 then (-((rnumL (rns s)).1 : Int), 0)
  else if 1152921504606846975 < (rnumL (rns s)).1 then (0, 11)
  else ((rnumL (rns s)).1, 0)
theorem num_same (s : ByteArray) : rNumR s = numR s ∧ ((numR s).2 = 9 ↔ (rnumL (rns s)).2.2 = false) := by
  obtain ⟨h1, h2⟩ := sgn_runes s
  unfold rNumR numR rnumL
  rw [h1, h2]
  have key : ∀ (l : List Nat) (mn : Bool), (rnumM mn l).2.1 = mn ∧ (natL l 0 false 0).2 = (rnumM mn l).2.2 ∧ ((rnumM mn l).2.2 = true → (rnumM mn l).1 = min (natL l 0 false 0).1 1152921504606846977) := by
    intro l mn
    cases l with
    | nil => exact ⟨rfl, rfl, fun g => by simp [rnumM] at g⟩
    | cons c l =>
      rw [rnumM, natL, scr_rs]
      by_cases hc : rs c = 0
      · rw [if_pos hc, if_pos hc]
        exact ⟨rfl, rfl, fun g => by simp at g⟩
      · rw [if_neg hc, if_neg hc]
        have hdg := rs_digit hc
        rw [rnum, if_neg (by simp)]
        have := nat_rnum c hc l (dig 0 c (rs c : Int)) (min (10 * 0 + (c - rs c)) 1152921504606846977) (by unfold dig; rw [if_pos (by omega)]; omega)
        exact ⟨rfl, this.1, this.2⟩
  obtain ⟨k1, k2, k3⟩ := key (rrest (rns s)) (rminus (rns s))
  obtain ⟨p, hp⟩ : ∃ p, p = natL (rrest (rns s)) 0 false 0 := ⟨_, rfl⟩
  obtain ⟨r, hr⟩ : ∃ r, r = rnumM (rminus (rns s)) (rrest (rns s)) := ⟨_, rfl⟩
  rw [← hp, ← hr] at k2 k3
  rw [← hr] at k1
  rw [← hp, ← hr]
  obtain ⟨pn, po⟩ := p
  obtain ⟨rn, rm, ro⟩ := r
  clear hp hr h1 h2 key
  obtain ⟨mn, hmn⟩ : ∃ mn, mn = rminus (rns s) := ⟨_, rfl⟩
  rw [← hmn] at k1 ⊢
  clear hmn
  dsimp only at k1 k2 k3 ⊢
  subst k1
  subst k2
  cases po with
  | false => exact ⟨rfl, by simp⟩
  | true =>
    have k4 := k3 rfl
    clear k3
    have f1 : ¬ (true = false) := by simp
    rw [if_neg f1, if_neg f1]
    cases rm with
    | true =>
      by_cases hle : pn ≤ 1152921504606846976
      · have : rn = pn := by omega
        subst this
        rw [if_pos ⟨rfl, hle⟩, if_pos ⟨rfl, hle⟩]
        simp
      · have h3 : ¬ (true = true ∧ rn ≤ 1152921504606846976) := fun g => by have := g.2; omega
        have h4 : ¬ (true = true ∧ pn ≤ 1152921504606846976) := fun g => hle g.2
        have h5 : 1152921504606846975 < rn := by omega
        have h6 : ¬ (true = false ∧ pn ≤ 1152921504606846975) := fun g => by simp at g
        rw [if_neg h3, if_neg h4, if_pos h5, if_neg h6]
        simp
    | false =>
      have h3 : ∀ x : Nat, ¬ (false = true ∧ x ≤ 1152921504606846976) := fun x g => by simp at g
      rw [if_neg (h3 rn), if_neg (h3 pn)]
      by_cases hle : pn ≤ 1152921504606846975
      · have : rn = pn := by omega
        subst this
        rw [if_neg (by omega), if_pos ⟨rfl, hle⟩]
        simp
      · have h5 : 1152921504606846975 < rn := by omega
        have h6 : ¬ (false = false ∧ pn ≤ 1152921504606846975) := fun g => hle g.2
        rw [if_pos h5, if_neg h6]
        simp
end Go.Proofs.YtapehdolnljnoaaGreatDoor
namespace Go.Proofs.YtapehdolnljnoaaGreatDoor
open Go.RowKit Go.Lib
set_option linter.unusedSimpArgs false
set_option linter.unusedVariables false
theorem rnum_le (nt : Nat) : ∀ (l : List Nat) (n : Nat), n ≤ 1152921504606846977 → (rnum nt l n).1 ≤ 1152921504606846977
  | [], n, h => h
  | c :: l, n, h => by
    rw [rnum]
    split
    · exact Nat.zero_le _
    · exact rnum_le nt l _ (by omega)
theorem rnumL_le (l : List Nat) : (rnumL l).1 ≤ 1152921504606846977 := by
  unfold rnumL
  cases rrest l with
  | nil => exact Nat.zero_le _
  | cons c r =>
    rw [rnumM]
    split
    · exact Nat.zero_le _
    · exact rnum_le _ _ _ (Nat.zero_le _)
set_option maxRecDepth 100000 in
set_option maxHeartbeats 1000000 in
theorem rNumber_any (s : ByteArray) (hs : s.size ≤ 4000000) (w : World) :
    Calls Tryz.prog 59 #[.string s] w fun e w' => e = .returned (.tuple #[.int .i64 (numR s).1, .int .i64 (numR s).2]) ∧ Only (fun _ => False) w w' := by
  have HC : Hid (Calls Tryz.prog 55 #[.string s] w fun e w' => ∃ v, e = .returned v ∧ Hid (ChrAt w' w.heap.size v (chrL s) ∧ Below w.heap.size w w')) := chars_any s hs w
  have HN : Hid (∀ v w1, RdC w1 v (chrL s) → Calls Tryz.prog 58 #[v] w1 fun e w' => e = .returned (rnV (rnumL (rns s))) ∧ Only (fun _ => False) w1 w') := fun v w1 h => by
    have := rnumber_any (chrL s) (by have := chrL_len s; omega) v w1 h
    rwa [chr_runes] at this
  have hle := rnumL_le (rns s)
  have hsame := (num_same s).1
  unfold rNumR at hsame
  rw [← hsame]
  obtain ⟨x, hx⟩ : ∃ x, x = rnumL (rns s) := ⟨_, rfl⟩
  rw [← hx] at HN hle ⊢
  clear hx hsame
  obtain ⟨n, mn, ok⟩ := x
  dsimp only at hle ⊢
  simp only [rnV] at HN
  obtain ⟨Z, hZ⟩ : ∃ Z : Int × Int, Z = if ok = false then (0, 9) else if mn = true ∧ n ≤ 1152921504606846976 then (-(n : Int), 0) else if 1152921504606846975 < n then (0, 11) else ((n : Int), 0) := ⟨_, rfl⟩
  have HZ : Hid (Z = if ok = false then (0, 9) else if mn = true ∧ n ≤ 1152921504606846976 then (-(n : Int), 0) else if 1152921504606846975 < n then (0, 11) else ((n : Int), 0)) := hZ
  rw [← hZ]
  clear hZ
  go_enter Tryz.func59, Tryz.ntmps59
  go_wp2_with fail
  refine (show Calls Tryz.prog 55 _ _ _ from HC.out).mono ?_
  rintro e w1 ⟨v, rfl, g⟩
  have O1 : Hid (Only (fun _ => False) w w1) := below_only g.out.2
  have T1 : Hid (RdC w1 v (chrL s)) := rdc_chr g.out.1
  clear HC g
  go_wp2_with fail
  refine (show Calls Tryz.prog 58 _ _ _ from HN.out _ _ T1.out).mono ?_
  rintro e2 w2 ⟨rfl, o2⟩
  have O2 : Hid (Only (fun _ => False) w w2) := O1.out.trans o2 (fun _ _ x => x)
  clear HN T1 O1 o2
  cases ok with
  | false =>
    have HE : Hid (Z = (0, 9)) := by
      show Z = _
      rw [HZ.out, if_pos rfl]
    clear HZ
    go_wp2
    go_ret2
    exact ⟨by rw [show Z = _ from HE.out]; rfl, O2.out⟩
  | true =>
    cases mn with
    | true =>
      by_cases h1 : n ≤ 1152921504606846976
      · have HE : Hid (Z = (-(n : Int), 0)) := by
          show Z = _
          rw [HZ.out, if_neg (by simp), if_pos ⟨rfl, h1⟩]
        have i1 : (n : Int) ≤ 1152921504606846976 := by omega
        have r1 : IntKind.i64.wrap (n : Int) = (n : Int) := by rw [IntKind.wrap_i64]; omega
        have r2 : IntKind.i64.wrap (-(n : Int)) = -(n : Int) := by rw [IntKind.wrap_i64]; omega
        clear HZ
        go_wp2
        go_ret2
        exact ⟨by rw [show Z = _ from HE.out]; rfl, O2.out⟩
      · have HE : Hid (Z = (0, 11)) := by
          show Z = _
          rw [HZ.out, if_neg (by simp), if_neg (fun g => h1 g.2), if_pos (by omega)]
        have i1 : decide ((n : Int) ≤ 1152921504606846976) = false := decide_eq_false (by omega)
        have i2 : (1152921504606846975 : Int) < (n : Int) := by omega
        clear HZ
        go_wp2
        go_ret2
        exact ⟨by rw [show Z = _ from HE.out]; rfl, O2.out⟩
    | false =>
      by_cases h1 : 1152921504606846975 < n
      · have HE : Hid (Z = (0, 11)) := by
          show Z = _
          rw [HZ.out, if_neg (by simp), if_neg (fun g => by simp at g), if_pos h1]
        have i2 : (1152921504606846975 : Int) < (n : Int) := by omega
        clear HZ
        go_wp2
        go_ret2
        exact ⟨by rw [show Z = _ from HE.out]; rfl, O2.out⟩
      · have HE : Hid (Z = ((n : Int), 0)) := by
          show Z = _
          rw [HZ.out, if_neg (by simp), if_neg (fun g => by simp at g), if_neg h1]
        have i2 : decide ((1152921504606846975 : Int) < (n : Int)) = false := decide_eq_false (by omega)
        have r1 : IntKind.i64.wrap (n : Int) = (n : Int) := by rw [IntKind.wrap_i64]; omega
        clear HZ
        go_wp2
        go_ret2
        exact ⟨by rw [show Z = _ from HE.out]; rfl, O2.out⟩
/-- What a name is, by its characters. -/
theorem nmL_all : ∀ (l : List Nat) (k : Nat), k + l.length ≤ 32 → nmL l k = (decide (0 < k + l.length) && l.all ofN)
  | [], k, h => by simp [nmL]
  | c :: l, k, h => by
    rw [List.length_cons] at h
    rw [nmL, List.all_cons, List.length_cons]
    by_cases hc : ofN c = false
    · rw [if_pos (.inr hc), hc]; simp
    · rw [if_neg (fun g => g.elim (by omega) hc), nmL_all l (k + 1) (by omega)]
      simp only [Bool.not_eq_false] at hc
      rw [hc, Bool.true_and, decide_eq_true (by omega), decide_eq_true (by omega)]
theorem nmL_long : ∀ (l : List Nat) (k : Nat), k ≤ 32 → 32 < k + l.length → nmL l k = false
  | [], k, h0, h => by simp at h; omega
  | c :: l, k, h0, h => by
    rw [nmL]
    rw [List.length_cons] at h
    split
    · rfl
    · rename_i g
      exact nmL_long l (k + 1) (by omega) (by omega)
theorem qu_tx : quB = tx [34] := rfl
theorem name_eq (s : ByteArray) : nameB s = (!(s.toList == [33]) && !decide ((rns s).head? = some 34) && decide (0 < (rns s).length) && decide ((rns s).length ≤ 32) && (rns s).all ofN && !(rnumL (rns s)).2.2) := by
  unfold nameB nmdB
  have h1 := (num_same s).2
  have h2 := pre_rune s (c := 34) (.inl (by decide)) (by decide)
  rw [← qu_tx] at h2
  rw [h2]
  have h3 : decide ((numR s).2 = 9) = !(rnumL (rns s)).2.2 := by
    rw [Bool.eq_iff_iff, decide_eq_true_iff, h1]
    simp
  rw [h3]
  cases s.toList == [33] with
  | true => simp
  | false =>
    by_cases h34 : (rns s).head? = some 34
    · simp [h34]
    · simp only [Bool.false_eq_true, if_false, decide_eq_false h34, Bool.not_false, Bool.true_and]
      by_cases hl : (rns s).length ≤ 32
      · rw [nmL_all _ 0 (by omega), decide_eq_true hl, Nat.zero_add, Bool.and_true, Bool.and_comm]
      · rw [nmL_long _ 0 (by omega) (by omega), decide_eq_false hl]
        simp
end Go.Proofs.YtapehdolnljnoaaGreatDoor
namespace Go.Proofs.YtapehdolnljnoaaGreatDoor
open Go.RowKit Go.Lib
set_option linter.unusedSimpArgs false
set_option linter.unusedVariables false
theorem all_drop {l : List Nat} {k : Nat} (h : k < l.length) (P : Nat → Bool) : (l.drop k).all P = (P (l[k]'h) && (l.drop (k + 1)).all P) := by
  rw [List.drop_eq_getElem_cons h, List.all_cons]
set_option maxRecDepth 100000 in
set_option maxHeartbeats 1000000 in
theorem rName_any (s : ByteArray) (hs : s.size ≤ 4000000) (w : World) :
    Calls Tryz.prog 60 #[.string s] w fun e w' => e = .returned (.bool (nameB s)) ∧ Only (fun _ => False) w w' := by
  have HC : Hid (Calls Tryz.prog 55 #[.string s] w fun e w' => ∃ v, e = .returned v ∧ Hid (ChrAt w' w.heap.size v (chrL s) ∧ Below w.heap.size w w')) := chars_any s hs w
  have HN : Hid (∀ v w1, RdC w1 v (chrL s) → Calls Tryz.prog 58 #[v] w1 fun e w' => e = .returned (rnV (rnumL (rns s))) ∧ Only (fun _ => False) w1 w') := fun v w1 h => by
    have := rnumber_any (chrL s) (by have := chrL_len s; omega) v w1 h
    rwa [chr_runes] at this
  have HB : Hid (∀ (c : Nat) w1, Calls Tryz.prog 56 #[.int .i32 (c : Int)] w1 fun e w' => e = .returned (.bool (blk c)) ∧ w' = w1) := fun c w1 => rblank_any c w1
  obtain ⟨Z, hZ⟩ : ∃ Z, Z = nameB s := ⟨_, rfl⟩
  have hZ2 := hZ
  rw [name_eq] at hZ2
  rw [← hZ]
  have hlen := chrL_len s
  have hrun := chr_runes s
  obtain ⟨x, hx⟩ : ∃ x, x = rnumL (rns s) := ⟨_, rfl⟩
  rw [← hx] at HN hZ2
  obtain ⟨l, hl⟩ : ∃ l, l = chrL s := ⟨_, rfl⟩
  rw [← hl] at HC HN hlen hrun
  rw [← hrun] at hZ2
  have HZ : Hid (Z = (!(s.toList == [33]) && !decide ((l.map (·.r)).head? = some 34) && decide (0 < (l.map (·.r)).length) && decide ((l.map (·.r)).length ≤ 32) && (l.map (·.r)).all ofN && !x.2.2)) := hZ2
  clear hZ hZ2 hx hl hrun
  obtain ⟨xn, xm, xo⟩ := x
  simp only [rnV] at HN
  dsimp only at HZ
  go_enter Tryz.func60, Tryz.ntmps60
  go_wp2_with fail
  refine (show Calls Tryz.prog 55 _ _ _ from HC.out).mono ?_
  rintro e w1 ⟨v, rfl, g⟩
  have O1 : Hid (Only (fun _ => False) w w1) := below_only g.out.2
  have T1 : Hid (RdC w1 v l) := rdc_chr g.out.1
  clear HC g
  obtain ⟨ao, cap, rfl, hcap, fL⟩ := T1.out
  obtain rfl | ⟨t0, l', hl'⟩ : l = [] ∨ ∃ t0 l', l = t0 :: l' := by
    cases l with
    | nil => exact .inl rfl
    | cons a b => exact .inr ⟨a, b, rfl⟩
  · have HE : Hid (Z = false) := by show Z = _; rw [HZ.out]; simp
    clear HZ fL
    go_wp2
    go_ret
    exact ⟨by rw [show Z = _ from HE.out]; rfl, O1.out⟩
  · obtain ⟨L, hL⟩ : ∃ L, L = l.length := ⟨_, rfl⟩
    have HL : Hid (L = l.length) := hL
    have hL1 : 1 ≤ L := by rw [hL, hl']; simp
    have hLm : L ≤ 4000000 := by omega
    have hml : (l.map (·.r)).length = L := by rw [List.length_map, hL]
    have hhd : (l.map (·.r)).head? = some t0.r := by rw [hl']; rfl
    rw [← hL]
    have b1 : decide ((L : Int) < 1) = false := decide_eq_false (by omega)
    by_cases h32 : L ≤ 32
    · have b2 : decide ((32 : Int) < (L : Int)) = false := decide_eq_false (by omega)
      obtain ⟨g0, o0, rfl, hg0, x0, _, _, _⟩ := fL 0 t0 (by rw [hl']; rfl)
      simp only [Nat.zero_mul, Nat.add_zero] at x0
      have j0 : (0 : Int) < (L : Int) := by omega
      obtain ⟨c0, hc0⟩ : ∃ c0, c0 = t0.r := ⟨_, rfl⟩
      rw [← hc0] at x0 hhd
      by_cases h34 : c0 = 34
      · have HE : Hid (Z = false) := by show Z = _; rw [HZ.out, hhd, h34]; simp
        have s34 : ((c0 : Int) == 34) = true := by rw [h34]; rfl
        clear HZ fL h34 hc0 hhd hml hL hl'
        go_wp2
        go_ret
        exact ⟨by rw [show Z = _ from HE.out]; rfl, O1.out⟩
      · have s34 : ((c0 : Int) == 34) = false := by simp; omega
        by_cases h33 : s.toList = [33]
        · have HE : Hid (Z = false) := by show Z = _; rw [HZ.out, h33]; simp
          have s33 : (s.toList == [33]) = true := by rw [h33]; rfl
          clear HZ fL h34 hc0 hhd hml hL hl' h33
          go_wp2
          go_ret
          exact ⟨by rw [show Z = _ from HE.out]; rfl, O1.out⟩
        · have s33 : (s.toList == [33]) = false := by simpa using h33
          have HE : Hid (Z = (((l.map (·.r)).drop 0).all ofN && !xo)) := by
            show Z = _
            rw [HZ.out, hhd, s33, hml, decide_eq_false (by simpa using h34 : ¬ some c0 = some 34), decide_eq_true (by omega : 0 < L), decide_eq_true h32, List.drop_zero]
            simp
          have HF : Hid (∀ i t, l[i]? = some t → ∃ g o, some (⟨g0, o0, none⟩ : Addr) = some ⟨g, o, none⟩ ∧ g < w1.heap.size ∧ w1.cell? ⟨g, o + i * 4, none⟩ = some (.int .i32 (t.r : Int)) ∧ w1.cell? ⟨g, o + i * 4 + 1, none⟩ = some (.int .i64 (t.a : Int)) ∧ w1.cell? ⟨g, o + i * 4 + 2, none⟩ = some (.int .i64 (t.z : Int)) ∧ w1.cell? ⟨g, o + i * 4 + 3, none⟩ = some (.bool t.b)) := fL
          clear HZ fL h34 hc0 hhd hml hL hl' h33
          go_wp2
          clear b1 b2 s33 s34 x0 j0
          go_loopw [4] (fun r4 wr => ∃ k : Nat, k ≤ L ∧ r4 = .int .i64 (k : Int) ∧ wr = w1 ∧ Hid (Z = (((l.map (·.r)).drop k).all ofN && !xo))) (fun r4 _ => L - uOf r4)
          case atStart => exact ⟨0, Nat.zero_le _, rfl, rfl, HE.out⟩
          case round =>
            obtain ⟨k, hk, rfl, hwr, HI⟩ := hrel
            subst wr
            clear HE
            by_cases hlt : k < L
            · have hlt2 : k < l.length := by have : L = l.length := HL.out; omega
              obtain ⟨t, ht⟩ : ∃ t, t = l[k]'hlt2 := ⟨_, rfl⟩
              have ht2 : l[k]? = some t := by rw [ht]; exact List.getElem?_eq_getElem _
              obtain ⟨g, o, eg, hg, y0, _, _, _⟩ := HF.out k t ht2
              injection eg with eg
              injection eg with eg1 eg2
              subst eg1
              subst eg2
              have hd : ((l.map (·.r)).drop k).all ofN = (ofN t.r && ((l.map (·.r)).drop (k + 1)).all ofN) := by
                rw [all_drop (by rw [List.length_map]; exact hlt2), List.getElem_map, ← ht]
              obtain ⟨c, hc⟩ : ∃ c, c = t.r := ⟨_, rfl⟩
              rw [← hc] at y0 hd
              have HI2 : Hid (Z = (ofN c && ((l.map (·.r)).drop (k + 1)).all ofN && !xo)) := by show Z = _; rw [HI.out, hd]
              clear HI hd ht ht2 hc hlt2
              have k0 : (0 : Int) ≤ (k : Int) := Int.natCast_nonneg _
              have k1 : (k : Int) < (L : Int) := by omega
              have HBc := HB.out c w1
              have ho : ofN c = (!blk c && decide (31 < c) && !(c == 127) && !(c == 65533)) := rfl
              cases hb : blk c with
              | true =>
                rw [hb] at HBc ho
                have HE : Hid (Z = false) := by show Z = _; rw [HI2.out, ho]; simp
                have HB1 : Hid (Calls Tryz.prog 56 _ _ _) := HBc
                clear HI2 ho hb HBc
                go_wp2_with fail
                refine (show Calls Tryz.prog 56 _ _ _ from HB1.out).mono ?_
                rintro e3 wz ⟨rfl, hwz⟩
                subst wz
                go_wp2
                go_ret
                exact ⟨by rw [show Z = _ from HE.out]; rfl, O1.out⟩
              | false =>
                rw [hb] at HBc ho
                have HB1 : Hid (Calls Tryz.prog 56 _ _ _) := HBc
                clear hb HBc
                by_cases h31 : 31 < c
                · have i1 : decide ((c : Int) < 32) = false := decide_eq_false (by omega)
                  by_cases h127 : c = 127
                  · have HE : Hid (Z = false) := by show Z = _; rw [HI2.out, ho, h127]; simp
                    have i2 : ((c : Int) == 127) = true := by rw [h127]; rfl
                    clear HI2 ho h127 h31
                    go_wp2_with fail
                    refine (show Calls Tryz.prog 56 _ _ _ from HB1.out).mono ?_
                    rintro e3 wz ⟨rfl, hwz⟩
                    subst wz
                    go_wp2
                    go_ret
                    exact ⟨by rw [show Z = _ from HE.out]; rfl, O1.out⟩
                  · have i2 : ((c : Int) == 127) = false := by simp; omega
                    by_cases hfd : c = 65533
                    · have HE : Hid (Z = false) := by show Z = _; rw [HI2.out, ho, hfd]; simp
                      have i3 : ((c : Int) == 65533) = true := by rw [hfd]; rfl
                      clear HI2 ho h127 h31 hfd
                      go_wp2_with fail
                      refine (show Calls Tryz.prog 56 _ _ _ from HB1.out).mono ?_
                      rintro e3 wz ⟨rfl, hwz⟩
                      subst wz
                      go_wp2
                      go_ret
                      exact ⟨by rw [show Z = _ from HE.out]; rfl, O1.out⟩
                    · have i3 : ((c : Int) == 65533) = false := by simp; omega
                      have HE : Hid (Z = (((l.map (·.r)).drop (k + 1)).all ofN && !xo)) := by
                        show Z = _
                        rw [HI2.out, ho, show (c == 127) = false by simpa using h127, show (c == 65533) = false by simpa using hfd, decide_eq_true h31]
                        simp
                      clear HI2 ho h127 h31 hfd
                      go_wp2_with fail
                      refine (show Calls Tryz.prog 56 _ _ _ from HB1.out).mono ?_
                      rintro e3 wz ⟨rfl, hwz⟩
                      subst wz
                      go_wp2
                      go_roundw
                      case rel => exact ⟨k + 1, by omega, by go_num, by simp, HE⟩
                      case measure => simp only [uOf]; omega
                · have i1 : (c : Int) < 32 := by omega
                  have HE : Hid (Z = false) := by show Z = _; rw [HI2.out, ho, decide_eq_false h31]; simp
                  clear HI2 ho h31
                  go_wp2_with fail
                  refine (show Calls Tryz.prog 56 _ _ _ from HB1.out).mono ?_
                  rintro e3 wz ⟨rfl, hwz⟩
                  subst wz
                  go_wp2
                  go_ret
                  exact ⟨by rw [show Z = _ from HE.out]; rfl, O1.out⟩
            · have k1 : ¬ (k : Int) < (L : Int) := by omega
              have HE : Hid (Z = !xo) := by
                show Z = _
                rw [HI.out, List.drop_eq_nil_of_le (by rw [List.length_map]; have : L = l.length := HL.out; omega)]
                simp
              have HR : Hid (RdC w1 (.slice (some ⟨g0, o0, none⟩) L cap) l) := ⟨_, _, by rw [show L = l.length from HL.out], hcap, HF.out⟩
              clear HI
              go_wp2_with fail
              refine (show Calls Tryz.prog 58 _ _ _ from HN.out _ _ HR.out).mono ?_
              rintro e2 w2 ⟨rfl, o2⟩
              have O2 : Hid (Only (fun _ => False) w w2) := O1.out.trans o2 (fun _ _ x => x)
              clear HN HR o2
              go_wp2
              go_ret
              exact ⟨by rw [show Z = _ from HE.out]; rfl, O2.out⟩
    · have b2 : decide ((32 : Int) < (L : Int)) = true := decide_eq_true (by omega)
      have HE : Hid (Z = false) := by show Z = _; rw [HZ.out, hml, decide_eq_false h32]; simp
      clear HZ fL hhd hml hL hl' h32
      go_wp2
      go_ret
      exact ⟨by rw [show Z = _ from HE.out]; rfl, O1.out⟩
end Go.Proofs.YtapehdolnljnoaaGreatDoor
namespace Go.Proofs.YtapehdolnljnoaaGreatDoor
open Go.RowKit
set_option linter.unusedSimpArgs false
set_option linter.unusedVariables false
set_option maxRecDepth 100000 in
set_option maxHeartbeats 4000000 in
theorem rreserved_any (s : ByteArray) (w : World) : Calls Tryz.prog 98 #[.string s] w fun x w' => x = .returned (.bool (resB s)) ∧ w' = w := by
  go_enter Tryz.func98, Tryz.ntmps98
  go_wp2
  all_goals
    go_ret
    refine ⟨?_, rfl⟩
    first
      | (exfalso; simp_all; done)
      | (unfold resB; simp only [*, Bool.or_true, Bool.or_false, Bool.true_or, Bool.false_or]; done)
      | (unfold resB; simp_all; done)
      | (simp only [Ending.returned.injEq, Value.bool.injEq]; unfold resB; ac_rfl)
      | (unfold resB; simp [Bool.or_comm, Bool.or_left_comm, Bool.or_assoc]; done)
set_option maxRecDepth 100000 in
theorem in_any (n : Int) (h1 : -1152921504606846976 ≤ n) (h2 : n ≤ 1152921504606846975) (w : World) : Calls Tryz.prog 108 #[.int .i64 n] w fun x w' => x = .returned (.bool true) ∧ w' = w := by
  go_enter Tryz.func108, Tryz.ntmps108
  go_wp2
  all_goals
    go_ret
    exact ⟨by simp [*], rfl⟩
set_option maxRecDepth 100000 in
theorem rname7_any (s : ByteArray) (hs : s.size ≤ 4000000) (h1 : nameB s = true) (h2 : resB s = false) (w : World) : Calls Tryz.prog 84 #[.string s] w fun x w' => x = .returned (.bool true) ∧ Only (fun _ => False) w w' := by
  have HC : Hid (Calls Tryz.prog 60 #[.string s] w fun e w' => e = .returned (.bool true) ∧ Only (fun _ => False) w w') := by
    have := rName_any s hs w
    rw [h1] at this
    exact this
  have HR : Hid (∀ w1, Calls Tryz.prog 98 #[.string s] w1 fun e w' => e = .returned (.bool false) ∧ w' = w1) := fun w1 => by
    have := rreserved_any s w1
    rw [h2] at this
    exact this
  clear h1 h2 hs
  go_enter Tryz.func84, Tryz.ntmps84
  go_wp2_with fail
  refine (show Calls Tryz.prog 60 _ _ _ from HC.out).mono ?_
  rintro e w1 ⟨rfl, o1⟩
  have O1 : Hid (Only (fun _ => False) w w1) := o1
  clear HC o1
  go_wp2_with fail
  refine (show Calls Tryz.prog 98 _ _ _ from HR.out _).mono ?_
  rintro e w2 ⟨rfl, rfl⟩
  clear HR
  go_wp2
  go_ret
  exact ⟨rfl, O1.out⟩
end Go.Proofs.YtapehdolnljnoaaGreatDoor
