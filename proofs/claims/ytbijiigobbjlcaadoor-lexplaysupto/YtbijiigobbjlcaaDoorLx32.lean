/- LexQuotes: what stands for a text is read as it. -/
import Derived.Test.YtbijiigobbjlcaaDoorLx31
namespace Go.Proofs.YtbijiigobbjlcaaDoor
open Go.RowKit Go.Lib
set_option linter.unusedSimpArgs false
set_option linter.unusedVariables false
theorem SK_head {c : Nat} (h : blk c = false) (h33 : c ≠ 33) (q : List Nat) : SK (c :: q) = c :: q := by
  have hd : (c :: q).dropWhile blk = c :: q := by rw [List.dropWhile_cons, if_neg (by rw [h]; simp)]
  have : rmL (c :: q) = false := by
    unfold rmL
    rw [List.head?_cons, decide_eq_false (by simpa using h33)]
    rfl
  rw [SK_eq, hd, if_neg (by rw [this]; simp)]
theorem SK_one {b : Nat} (h : blk b = true) (q : List Nat) : SK (b :: q) = SK q := SK_blank [b] q (by rw [List.dropWhile_cons, if_pos h]; rfl)
theorem str_quo (a n : Nat) (rest : List Nat) : ∀ (l : List Nat) (o : Nat) (out : List Nat), strG a n (pl o (quo l ++ 34 :: rest)) false out = if 4096 < (enL (out ++ l)).length then (zT, a, 11) else (⟨3, tx (out ++ l), 0, a⟩, a + o + wl (quo l) + 2, 0)
  | [], o, out => by
    rw [show quo [] = [] from rfl, List.nil_append, pl, List.append_nil]
    simp only [strG]
    rw [if_neg (by decide), if_pos trivial, wl_nil, Nat.add_zero]
  | c :: l, o, out => by
    have e : quo (c :: l) = quC c ++ quo l := by simp [quo]
    rw [e]
    unfold quC
    by_cases h10 : c = 10
    · subst h10
      rw [if_pos rfl]
      show strG a n (pl o (92 :: 110 :: (quo l ++ 34 :: rest))) false out = _
      rw [pl, pl]
      simp only [strG, if_true, show une 110 = some 10 from rfl]
      rw [str_quo a n rest l _ (out ++ [10]), List.append_assoc, wl_app, show wl [92, 110] = 2 from rfl, show wr 92 = 1 from rfl, show wr 110 = 1 from rfl]
      simp only [List.singleton_append]
      split
      · rfl
      · congr 2
        omega
    · rw [if_neg h10]
      by_cases h34 : c = 34 ∨ c = 92
      · rw [if_pos h34]
        show strG a n (pl o (92 :: c :: (quo l ++ 34 :: rest))) false out = _
        rw [pl, pl]
        have hu : une c = some c := by unfold une; rw [if_neg (by omega), if_pos h34]
        simp only [strG, if_true, hu]
        rw [str_quo a n rest l _ (out ++ [c]), List.append_assoc, wl_app, wl_cons, wl_cons, wl_nil]
        simp only [List.singleton_append, show wr 92 = 1 from rfl]
        split
        · rfl
        · congr 2
          omega
      · rw [if_neg h34]
        show strG a n (pl o (c :: (quo l ++ 34 :: rest))) false out = _
        rw [pl]
        simp only [strG]
        rw [if_neg (by omega), if_neg (by omega), str_quo a n rest l _ (out ++ [c]), List.append_assoc, wl_app, wl_cons, wl_nil]
        simp only [List.singleton_append]
        split
        · rfl
        · congr 2
          omega
theorem quo_wl : ∀ l : List Nat, wl (quo l) ≤ 2 * wl l
  | [] => Nat.le_refl _
  | c :: l => by
    have := quo_wl l
    have e : quo (c :: l) = quC c ++ quo l := by simp [quo]
    have hw := wr_pos c
    rw [e, wl_app, wl_cons]
    unfold quC
    split
    · rw [show wl [92, 110] = 2 from rfl]; omega
    · split
      · rename_i h
        have : wr c = 1 := by rcases h with rfl | rfl <;> rfl
        rw [wl_cons, wl_cons, wl_nil, show wr 92 = 1 from rfl]; omega
      · rw [wl_cons, wl_nil]; omega
theorem quo_vl {l : List Nat} (h : VL l) : VL (quo l) := by
  intro c hc
  obtain ⟨d, hd, hc⟩ := List.mem_flatMap.1 hc
  unfold quC at hc
  split at hc
  · simp only [List.mem_cons, List.not_mem_nil, or_false] at hc
    rcases hc with rfl | rfl <;> exact .inl (by decide)
  · split at hc
    · simp only [List.mem_cons, List.not_mem_nil, or_false] at hc
      rcases hc with rfl | rfl
      · exact .inl (by decide)
      · exact h _ hd
    · simp only [List.mem_cons, List.not_mem_nil, or_false] at hc
      subst hc
      exact h _ hd
theorem dup_num : (numR (tx [100, 117, 112])).2 = 9 := by kernel_rfl
theorem dup_nm : nmdB (tx [100, 117, 112]) = true := by kernel_rfl
theorem swap_num : (numR (tx [115, 119, 97, 112])).2 = 9 := by kernel_rfl
theorem swap_nm : nmdB (tx [115, 119, 97, 112]) = true := by kernel_rfl
theorem wrd_dup (a z : Nat) : wrdL [100, 117, 112] a z = (⟨1, tx [100, 117, 112], 0, a⟩, z, 0) := by
  unfold wrdL
  rw [dup_num, dup_nm, if_neg (by decide), if_neg (by decide), if_neg (by decide)]
theorem wrd_swap (a z : Nat) : wrdL [115, 119, 97, 112] a z = (⟨1, tx [115, 119, 97, 112], 0, a⟩, z, 0) := by
  unfold wrdL
  rw [swap_num, swap_nm, if_neg (by decide), if_neg (by decide), if_neg (by decide)]
theorem red_word {s : ByteArray} {c : Nat} {q w r : List Nat} {a : Nat} (h : Sfx s (c :: q) a) (hc : c ≠ 34) (hw : (c :: q).takeWhile (fun c => !blk c) = w) : redR s a = wrdL w a (a + wl w) := by
  unfold redR
  rw [if_neg (fun x => hc ((quote_sfx h).1 x)), wrd_sfx h, hw]
theorem red_str {s : ByteArray} {q : List Nat} {a : Nat} (h : Sfx s (34 :: q) a) : redR s a = strG a s.size (pl 0 q) false [] := by
  unfold redR
  rw [if_pos ((quote_sfx h).2 rfl), str_sfx h]
theorem tw_dup (q : List Nat) : (100 :: 117 :: 112 :: 32 :: q).takeWhile (fun c => !blk c) = [100, 117, 112] := by simp [List.takeWhile_cons, blk]
theorem tw_swap (q : List Nat) : (115 :: 119 :: 97 :: 112 :: 32 :: q).takeWhile (fun c => !blk c) = [115, 119, 97, 112] := by simp [List.takeWhile_cons, blk]
theorem wl_dup : wl [100, 117, 112] = 3 := by decide
theorem wl_swap : wl [115, 119, 97, 112] = 4 := by decide
set_option maxHeartbeats 1000000 in
theorem quotes_pure {l : List Nat} (hv : VL l) (hz : wl l ≤ 4096) :
    ∃ b c : Int, tokR (tx ([100, 117, 112, 32] ++ ([34] ++ quo l ++ [34]) ++ [115, 119, 97, 112, 32] ++ ([34] ++ quo l ++ [34]))) = ([⟨1, tx [100, 117, 112], 0, 0⟩, ⟨3, tx l, 0, 4⟩, ⟨1, tx [115, 119, 97, 112], 0, b⟩, ⟨3, tx l, 0, c⟩], 0, 0) := by
  have hq := quo_wl l
  have hqv := quo_vl hv
  have e0 : [100, 117, 112, 32] ++ ([34] ++ quo l ++ [34]) ++ [115, 119, 97, 112, 32] ++ ([34] ++ quo l ++ [34]) = 100 :: 117 :: 112 :: 32 :: 34 :: (quo l ++ 34 :: 115 :: 119 :: 97 :: 112 :: 32 :: 34 :: (quo l ++ 34 :: [])) := by simp
  rw [e0]
  have o1 : ∀ c, c ≤ 127 → Vr c := fun c h => .inl (by omega)
  have hvl : VL (100 :: 117 :: 112 :: 32 :: 34 :: (quo l ++ 34 :: 115 :: 119 :: 97 :: 112 :: 32 :: 34 :: (quo l ++ 34 :: []))) := by
    intro c hc
    simp only [List.mem_cons, List.mem_append, List.not_mem_nil, or_false] at hc
    rcases hc with rfl | rfl | rfl | rfl | rfl | hc | rfl | rfl | rfl | rfl | rfl | rfl | rfl | hc | rfl
    all_goals first
      | exact hqv _ hc
      | exact o1 _ (by decide)
  obtain ⟨S, hS⟩ : ∃ S, S = tx (100 :: 117 :: 112 :: 32 :: 34 :: (quo l ++ 34 :: 115 :: 119 :: 97 :: 112 :: 32 :: 34 :: (quo l ++ 34 :: []))) := ⟨_, rfl⟩
  have f0 : Sfx S (100 :: 117 :: 112 :: 32 :: 34 :: (quo l ++ 34 :: 115 :: 119 :: 97 :: 112 :: 32 :: 34 :: (quo l ++ 34 :: []))) 0 := by rw [hS]; exact sfx_all hvl
  have hst : ¬ stR S < S.size := by rw [hS]; exact stR_tx hvl
  rw [← hS]
  clear hS hvl
  have w1 : ∀ c, c ≤ 127 → wr c = 1 := fun c h => by unfold wr; rw [enc1 h]; rfl
  have f1 := f0.tail
  have f2 := f1.tail
  have f3 := f2.tail
  have f4 := f3.tail
  rw [w1 100 (by decide), w1 117 (by decide), w1 112 (by decide)] at f3
  rw [w1 100 (by decide), w1 117 (by decide), w1 112 (by decide), w1 32 (by decide)] at f4
  rw [show 0 + 1 + 1 + 1 = 3 from rfl] at f3
  rw [show 0 + 1 + 1 + 1 + 1 = 4 from rfl] at f4
  obtain ⟨R3, hR3⟩ : ∃ R3, R3 = 115 :: 119 :: 97 :: 112 :: 32 :: 34 :: (quo l ++ 34 :: []) := ⟨_, rfl⟩
  obtain ⟨R4, hR4⟩ : ∃ R4, R4 = 34 :: (quo l ++ 34 :: []) := ⟨_, rfl⟩
  rw [← hR3] at f0 f1 f2 f3 f4
  -- the second token's end
  have f5 : Sfx S R3 (4 + wl (34 :: (quo l ++ [34]))) := by
    have : Sfx S ((34 :: (quo l ++ [34])) ++ R3) 4 := by simpa using f4
    exact this.drop
  have lw : wl (34 :: (quo l ++ [34])) = wl (quo l) + 2 := by rw [wl_cons, wl_app, wl_cons, wl_nil, w1 34 (by decide)]; omega
  rw [lw] at f5
  obtain ⟨p, hp⟩ : ∃ p, p = 4 + (wl (quo l) + 2) := ⟨_, rfl⟩
  rw [← hp] at f5
  have f5' := f5
  rw [hR3, ← hR4] at f5'
  have f9 : Sfx S R4 (p + 5) := by
    have := f5'.tail.tail.tail.tail.tail
    rwa [w1 115 (by decide), w1 119 (by decide), w1 97 (by decide), w1 112 (by decide), w1 32 (by decide)] at this
  have f8 : Sfx S (32 :: R4) (p + 4) := by
    have := f5'.tail.tail.tail.tail
    rwa [w1 115 (by decide), w1 119 (by decide), w1 97 (by decide), w1 112 (by decide)] at this
  have hsz : S.size = p + 5 + (wl (quo l) + 2) := by
    have := f9.size
    rw [hR4, show 34 :: (quo l ++ 34 :: []) = 34 :: (quo l ++ [34]) from rfl, lw] at this
    exact this
  -- the steps
  have b0 : bg S 0 = 0 := by
    have := bg_sfx f0
    rw [SK_head rfl (by decide)] at this
    exact this.pos f0
  have r0 : redR S 0 = (⟨1, tx [100, 117, 112], 0, 0⟩, 3, 0) := by
    rw [red_word (r := []) f0 (by decide) (tw_dup _), wrd_dup, wl_dup]
    rfl
  have b3 : bg S 3 = 4 := by
    have := bg_sfx f3
    rw [SK_one rfl, SK_head rfl (by decide)] at this
    exact this.pos f4
  have hl4 : ¬ 4096 < (enL ([] ++ l)).length := by rw [List.nil_append]; show ¬ 4096 < wl l; omega
  have r4 : redR S 4 = (⟨3, tx l, 0, 4⟩, p, 0) := by
    rw [red_str f4, str_quo, if_neg hl4, List.nil_append, show 4 + 0 + wl (quo l) + 2 = p by omega]
    rfl
  have bp : bg S p = p := by
    have := bg_sfx f5'
    rw [SK_head rfl (by decide)] at this
    exact this.pos f5'
  have rp : redR S p = (⟨1, tx [115, 119, 97, 112], 0, p⟩, p + 4, 0) := by
    rw [red_word (r := []) f5' (by decide) (tw_swap _), wrd_swap, wl_swap]
  have bp4 : bg S (p + 4) = p + 5 := by
    have := bg_sfx f8
    rw [SK_one rfl, hR4, SK_head rfl (by decide), ← hR4] at this
    exact this.pos f9
  have r9 : redR S (p + 5) = (⟨3, tx l, 0, (p + 5 : Nat)⟩, S.size, 0) := by
    rw [hR4] at f9
    rw [red_str f9, str_quo, if_neg hl4, List.nil_append, show p + 5 + 0 + wl (quo l) + 2 = S.size by omega]
  refine ⟨(p : Int), ((p + 5 : Nat) : Int), ?_⟩
  rw [tokR_h (by omega) hst, b0]
  rw [tokH_go (by omega) (by rw [r0]) (by simp), r0]
  dsimp only
  rw [b3, tokH_go (by omega) (by rw [r4]) (by simp), r4]
  dsimp only
  rw [bp, tokH_go (by omega) (by rw [rp]) (by simp), rp]
  dsimp only
  rw [bp4, tokH_go (by omega) (by rw [r9]) (by simp), r9]
  dsimp only
  have := bg_bd (s := S) (a := S.size) (Nat.le_refl _)
  rw [tokH_end _ (by omega)]
  rfl
end Go.Proofs.YtbijiigobbjlcaaDoor
