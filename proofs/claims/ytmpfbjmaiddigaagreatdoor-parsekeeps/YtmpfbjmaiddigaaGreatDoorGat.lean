/- What the document measures of a tree, and what the program does: the plain functions. What trees that came in become as values. Values as trees: Tree, ItemTree. -/
import Derived.Test.YtmpfbjmaiddigaaGreatDoorGar
import Derived.Test.YtmpfbjmaiddigaaGreatDoorGas
import Derived.Test.YtmpfbjmaiddigaaGreatDoorGag
import Derived.Lib.ValidLaws
import Derived.Test.YtmpfbjmaiddigaaGreatDoorGaf
namespace Go.Proofs.YtmpfbjmaiddigaaGreatDoor
open Go.RowKit Go.Lib
set_option linter.unusedSimpArgs false
set_option linter.unusedVariables false
theorem validD_enL : ∀ (q : List Nat), VL q → validD (enL q) = true
  | [], _ => rfl
  | c :: q, h => by
    have hc : Vr c := h c (List.mem_cons_self ..)
    have e : enL (c :: q) = encodeRune (c : Int) ++ enL q := by simp [enL]
    have hd := decodeL_enc hc (enL q)
    have hw := wr_pos c
    have hne : enL (c :: q) ≠ [] := by
      rw [e]
      intro g
      have := congrArg List.length g
      rw [List.length_append, List.length_nil] at this
      unfold wr at hw
      omega
    rw [validD_step _ hne, e, hd]
    have h1 : ¬ (c = 65533 ∧ wr c = 1) := by
      rintro ⟨rfl, h⟩
      exact absurd h (by decide)
    rw [if_neg h1, show wr c = (encodeRune (c : Int)).length from rfl, List.drop_left]
    exact validD_enL q (fun x hx => h x (List.mem_cons_of_mem _ hx))
theorem validD_runes : ∀ (n : Nat) (l : List UInt8), l.length ≤ n → validD l = true → ∃ q, VL q ∧ l = enL q
  | 0, l, h, _ => ⟨[], fun c hc => by simp at hc, (List.length_eq_zero_iff.1 (Nat.le_zero.1 h)).trans rfl⟩
  | n + 1, l, h, hv => by
    by_cases hne : l = []
    · exact ⟨[], fun c hc => by simp at hc, by rw [hne]; rfl⟩
    · rw [validD_step _ hne] at hv
      by_cases hb : (decodeL l).1 = 65533 ∧ (decodeL l).2 = 1
      · rw [if_pos hb] at hv
        exact absurd hv (by decide)
      · rw [if_neg hb] at hv
        have he := encode_decode _ hne hb
        have hp : 1 ≤ (decodeL l).2 := by
          by_cases h0 : (decodeL l).2 = 0
          · rw [h0, List.take_zero] at he
            have := wr_pos (decodeL l).1
            unfold wr at this
            rw [he] at this
            simp at this
          · omega
        have hl : 0 < l.length := List.length_pos_iff.2 hne
        obtain ⟨q, hq, e⟩ := validD_runes n (l.drop (decodeL l).2) (by rw [List.length_drop]; omega) hv
        refine ⟨(decodeL l).1 :: q, fun c hc => ?_, ?_⟩
        · rcases List.mem_cons.1 hc with rfl | hc
          · exact decode_vr _ _
          · exact hq c hc
        · rw [show enL ((decodeL l).1 :: q) = encodeRune ((decodeL l).1 : Int) ++ enL q by simp [enL], he, ← e, List.take_append_drop]
/-- a text is one of characters just if no byte is astray -/
theorem vl_st (s : ByteArray) : vlB s = true ↔ ¬ stR s < s.size := by
  unfold vlB
  constructor
  · intro h
    obtain ⟨q, hq, e⟩ := validD_runes _ _ (Nat.le_refl _) h
    rw [tx_inj e]
    exact stR_tx hq
  · intro h
    obtain ⟨q, hq, rfl⟩ := valid_tx h
    rw [tx_data]
    exact validD_enL q hq
/-- a tree whose leaves have no parts -/
def LfT : Nat → Vt → Prop
  | 0, _ => False
  | d + 1, t => (¬ (t.k = 4 ∨ t.k = 5) → t.l = []) ∧ ∀ x ∈ t.l, LfT d x
theorem nm_lf : ∀ (d : Nat) (i : Bool) (t : Vt), SmT d t → LfT d (nm d i t)
  | 0, _, _, h => h.elim
  | d + 1, i, t, h => by
    obtain ⟨k, n, s, l⟩ := t
    obtain ⟨h1, h2, h3, h4, h5⟩ := h
    dsimp only at h5
    unfold nm
    dsimp only
    split
    · exact ⟨fun _ => rfl, fun x hx => by cases hx⟩
    split
    · exact ⟨fun _ => rfl, fun x hx => by cases hx⟩
    split
    · exact ⟨fun _ => rfl, fun x hx => by cases hx⟩
    split
    · refine ⟨fun g => absurd (.inl rfl) g, fun x hx => ?_⟩
      obtain ⟨y, hy, rfl⟩ := List.mem_map.1 hx
      exact nm_lf d false y (h5 y hy)
    split
    · refine ⟨fun g => absurd (.inr rfl) g, fun x hx => ?_⟩
      obtain ⟨y, hy, rfl⟩ := List.mem_map.1 hx
      exact nm_lf d true y (h5 y hy)
    split
    · exact ⟨fun _ => rfl, fun x hx => by cases hx⟩
    split
    · exact ⟨fun _ => rfl, fun x hx => by cases hx⟩
    · exact ⟨fun _ => rfl, fun x hx => by cases hx⟩
/-- is each part what it may be; the size, the depth, the height -/
def okD : Nat → Bool → Vt → Bool
  | 0, _, _ => false
  | d + 1, i, t => if t.k = 4 ∨ t.k = 5 then t.l.all (okD d (decide (t.k = 5))) else if i = true ∧ t.k = 7 then clB t.s else alB t
def szD : Nat → Vt → Nat
  | 0, _ => 1
  | d + 1, t => 1 + (t.l.map (szD d)).sum
def dpD : Nat → Vt → Nat
  | 0, _ => 0
  | d + 1, t => if t.k = 4 ∨ t.k = 5 then 1 + (t.l.map (dpD d)).foldl max 0 else 0
def hgD : Nat → Vt → Nat
  | 0, _ => 0
  | d + 1, t => (t.l.map fun x => 1 + hgD d x).foldl max 0
theorem al8 {t : Vt} (h : t.k = 8) : alB t = false := by simp [alB, h]
theorem al7 {t : Vt} (h : t.k = 7) : alB t = false := by simp [alB, h]
theorem ok_eq : ∀ (d : Nat) (t : Vt), LfT d t → ∀ (i : Bool) (F : Nat), 2 * d + 1 + (if i = true then 1 else 0) ≤ F → okV F i t = okD d i t ∧ sz F i t = szD d t ∧ dp F i t = dpD d t
  | 0, _, h, _, _, _ => h.elim
  | d + 1, t, h, i, F, hF => by
    have val : ∀ F', 2 * (d + 1) + 1 ≤ F' → okV F' false t = okD (d + 1) false t ∧ sz F' false t = szD (d + 1) t ∧ dp F' false t = dpD (d + 1) t := by
      intro F' hF'
      obtain ⟨G, rfl⟩ : ∃ G, F' = G + 1 := ⟨F' - 1, by omega⟩
      have ch : ∀ x ∈ t.l, ∀ j, okV G j x = okD d j x ∧ sz G j x = szD d x ∧ dp G j x = dpD d x := fun x hx j => ok_eq d x (h.2 x hx) j G (by split <;> omega)
      refine ⟨?_, ?_, ?_⟩
      · unfold okV okD
        by_cases hk : t.k = 4 ∨ t.k = 5
        · rw [if_pos hk, if_pos hk]
          rw [Bool.eq_iff_iff, List.all_eq_true, List.all_eq_true]
          exact ⟨fun g x hx => by rw [← (ch x hx _).1]; exact g x hx, fun g x hx => by rw [(ch x hx _).1]; exact g x hx⟩
        · rw [if_neg hk, if_neg hk, if_neg (fun g => by cases g.1)]
      · unfold sz szD
        rw [List.map_congr_left fun x hx => (ch x hx _).2.1]
      · unfold dp dpD
        rw [List.map_congr_left fun x hx => (ch x hx _).2.2]
    cases i with
    | false => exact val F (by simpa using hF)
    | true =>
      obtain ⟨G, rfl⟩ : ∃ G, F = G + 1 := ⟨F - 1, by simp at hF; omega⟩
      by_cases h7 : t.k = 7
      · have hl : t.l = [] := h.1 (by omega)
        refine ⟨?_, ?_, ?_⟩
        · unfold okV okD
          rw [if_pos h7, if_neg (by omega), if_pos ⟨rfl, h7⟩]
        · unfold sz szD
          rw [if_pos (.inl h7), hl]
          rfl
        · unfold dp dpD
          rw [if_pos (.inl h7), if_neg (by omega)]
      by_cases h8 : t.k = 8
      · have hl : t.l = [] := h.1 (by omega)
        refine ⟨?_, ?_, ?_⟩
        · unfold okV okD
          rw [if_neg h7, if_pos h8, if_neg (by omega), if_neg (fun g => h7 g.2), al8 h8]
        · unfold sz szD
          rw [if_pos (.inr h8), hl]
          rfl
        · unfold dp dpD
          rw [if_pos (.inr h8), if_neg (by omega)]
      obtain ⟨v1, v2, v3⟩ := val G (by simp at hF; omega)
      refine ⟨?_, ?_, ?_⟩
      · rw [show okV (G + 1) true t = okV G false t from (show (if t.k = 7 then clB t.s else if t.k = 8 then false else okV G false t) = okV G false t by rw [if_neg h7, if_neg h8]), v1]
        unfold okD
        rw [if_neg (fun g : false = true ∧ t.k = 7 => by cases g.1), if_neg (fun g : true = true ∧ t.k = 7 => h7 g.2)]
      · rw [show sz (G + 1) true t = sz G false t from (show (if t.k = 7 ∨ t.k = 8 then 1 else sz G false t) = sz G false t by rw [if_neg (fun g => g.elim h7 h8)]), v2]
      · rw [show dp (G + 1) true t = dp G false t from (show (if t.k = 7 ∨ t.k = 8 then 0 else dp G false t) = dp G false t by rw [if_neg (fun g => g.elim h7 h8)]), v3]
theorem okD_val {d : Nat} {t : Vt} : okD (d + 1) false t = (decide (t.k ≠ 7) && okD (d + 1) true t) := by
  unfold okD
  by_cases hk : t.k = 4 ∨ t.k = 5
  · rw [if_pos hk, if_pos hk, decide_eq_true (p := t.k ≠ 7) (by omega), Bool.true_and]
  · rw [if_neg hk, if_neg hk, if_neg (fun g => by cases g.1)]
    by_cases h7 : t.k = 7
    · rw [al7 h7, decide_eq_false (p := _ ≠ 7) (fun g => g h7), Bool.false_and]
    · rw [if_neg (fun g => h7 g.2), decide_eq_true h7, Bool.true_and]
theorem fold_le : ∀ (l : List Nat) (a b : Nat), l.foldl max a ≤ b ↔ a ≤ b ∧ ∀ x ∈ l, x ≤ b
  | [], a, b => by simp
  | x :: l, a, b => by
    rw [List.foldl_cons, fold_le l]
    simp only [List.mem_cons, forall_eq_or_imp]
    constructor
    · rintro ⟨h1, h2⟩; exact ⟨by omega, by omega, h2⟩
    · rintro ⟨h1, h2, h3⟩; exact ⟨by omega, h3⟩
theorem hg_dp : ∀ (d : Nat) (t : Vt), LfT d t → hgD d t ≤ dpD d t
  | 0, _, h => h.elim
  | d + 1, t, h => by
    unfold hgD dpD
    by_cases hk : t.k = 4 ∨ t.k = 5
    · rw [if_pos hk, fold_le]
      refine ⟨Nat.zero_le _, fun x hx => ?_⟩
      obtain ⟨y, hy, rfl⟩ := List.mem_map.1 hx
      have h1 := hg_dp d y (h.2 y hy)
      have h2 := ((fold_le (t.l.map (dpD d)) 0 _).1 (Nat.le_refl _)).2 _ (List.mem_map.2 ⟨y, hy, rfl⟩)
      omega
    · rw [h.1 hk]
      exact Nat.zero_le _
/-- what Measure answers: of the parts, one behind the other; of a tree -/
def mzL (f : Vt → Int → Int × Int × Bool) (k4 : Bool) (left : Int) : List Vt → Int → Int → Int × Int × Bool
  | [], z, p => (z, p + 1, decide (p < 32))
  | x :: r, z, p => if k4 = true ∧ x.k = 7 then (0, 0, false) else if (f x (left - z)).2.2 = true then mzL f k4 left r (z + (f x (left - z)).1) (max p (f x (left - z)).2.1) else (0, 0, false)
def mz : Nat → Vt → Int → Int → Int × Int × Bool
  | 0, _, _, _ => (0, 0, false)
  | d + 1, t, left, nest => if left < 1 ∨ 32 < nest then (0, 0, false) else if t.k = 4 ∨ t.k = 5 then mzL (fun x lf => mz d x lf (nest + 1)) (decide (t.k = 4)) left t.l 1 0
    else if 1 ≤ t.k ∧ t.k ≤ 7 then (1, 0, if t.k = 7 then clB t.s else alB t) else (0, 0, false)
theorem mzL_bd (f : Vt → Int → Int × Int × Bool) (k4 : Bool) (left : Int) (hf : ∀ x lf, (f x lf).2.2 = true → 1 ≤ (f x lf).1 ∧ (f x lf).1 ≤ lf ∧ 0 ≤ (f x lf).2.1 ∧ (f x lf).2.1 ≤ 32) : ∀ (l : List Vt) (z p : Int), 1 ≤ z → z ≤ left → 0 ≤ p → (mzL f k4 left l z p).2.2 = true → 1 ≤ (mzL f k4 left l z p).1 ∧ (mzL f k4 left l z p).1 ≤ left ∧ 0 ≤ (mzL f k4 left l z p).2.1 ∧ (mzL f k4 left l z p).2.1 ≤ 32
  | [], z, p, h1, h2, h3, h => by
    simp only [mzL, decide_eq_true_eq] at h ⊢
    omega
  | x :: r, z, p, h1, h2, h3, h => by
    unfold mzL at h ⊢
    by_cases c1 : k4 = true ∧ x.k = 7
    · rw [if_pos c1] at h; exact absurd h (by decide)
    · rw [if_neg c1] at h ⊢
      by_cases c2 : (f x (left - z)).2.2 = true
      · rw [if_pos c2] at h ⊢
        have := hf x _ c2
        exact mzL_bd f k4 left hf r _ _ (by omega) (by omega) (by omega) h
      · rw [if_neg c2] at h; exact absurd h (by decide)
theorem mz_bd : ∀ (d : Nat) (t : Vt) (left nest : Int), (mz d t left nest).2.2 = true → 1 ≤ (mz d t left nest).1 ∧ (mz d t left nest).1 ≤ left ∧ 0 ≤ (mz d t left nest).2.1 ∧ (mz d t left nest).2.1 ≤ 32
  | 0, _, _, _, h => absurd h (by simp [mz])
  | d + 1, t, left, nest, h => by
    unfold mz at h ⊢
    by_cases c1 : left < 1 ∨ 32 < nest
    · rw [if_pos c1] at h; exact absurd h (by decide)
    rw [if_neg c1] at h ⊢
    by_cases c2 : t.k = 4 ∨ t.k = 5
    · rw [if_pos c2] at h ⊢
      exact mzL_bd _ _ left (fun x lf g => mz_bd d x lf _ g) t.l 1 0 (by omega) (by omega) (by omega) h
    rw [if_neg c2] at h ⊢
    by_cases c3 : 1 ≤ t.k ∧ t.k ≤ 7
    · rw [if_pos c3] at h ⊢
      refine ⟨?_, ?_, ?_, ?_⟩ <;> dsimp only <;> omega
    · rw [if_neg c3] at h; exact absurd h (by decide)
def MzS (d : Nat) (x : Vt) (nest : Int) (r : Int → Int × Int × Bool) : Prop := ∀ left, ((r left).2.2 = true ↔ okD d true x = true ∧ (szD d x : Int) ≤ left ∧ dpD d x ≤ 32 ∧ nest + hgD d x ≤ 32) ∧ ((r left).2.2 = true → (r left).1 = szD d x ∧ (r left).2.1 = dpD d x)
theorem szD_pos : ∀ (d : Nat) (t : Vt), 1 ≤ szD d t
  | 0, _ => Nat.le_refl _
  | d + 1, t => by unfold szD; omega
theorem mzL_spec (d : Nat) (f : Vt → Int → Int × Int × Bool) (k4 : Bool) (left nest : Int) : ∀ (l : List Vt) (z p : Nat), (∀ x ∈ l, (∃ e, d = e + 1) ∧ MzS d x (nest + 1) (f x)) → (z : Int) ≤ left →
    ((mzL f k4 left l z p).2.2 = true ↔ l.all (okD d (!k4)) = true ∧ ((z + (l.map (szD d)).sum : Nat) : Int) ≤ left ∧ (l.map (dpD d)).foldl max p < 32 ∧ ∀ x ∈ l, nest + 1 + hgD d x ≤ 32) ∧ ((mzL f k4 left l z p).2.2 = true → (mzL f k4 left l z p).1 = ((z + (l.map (szD d)).sum : Nat) : Int) ∧ (mzL f k4 left l z p).2.1 = (((l.map (dpD d)).foldl max p : Nat) : Int) + 1)
  | [], z, p, _, hz => by
    simp only [mzL, List.all_nil, List.map_nil, List.sum_nil, List.foldl_nil, decide_eq_true_eq, List.not_mem_nil, false_implies, implies_true, and_true, true_and, Nat.add_zero]
    constructor
    · intro h; exact ⟨hz, by omega⟩
    · rintro ⟨_, h⟩; omega
  | x :: r, z, p, hf, hz => by
    obtain ⟨⟨e, rfl⟩, hx⟩ := hf x (List.mem_cons_self ..)
    obtain ⟨s1, s2⟩ := hx (left - z)
    have hp := szD_pos (e + 1) x
    unfold mzL
    by_cases c1 : k4 = true ∧ x.k = 7
    · rw [if_pos c1]
      refine ⟨⟨fun g => absurd g (by decide), fun g => ?_⟩, fun g => absurd g (by decide)⟩
      have := g.1
      rw [List.all_cons, c1.1, Bool.not_true, okD_val, decide_eq_false (p := x.k ≠ 7) (fun g => g c1.2), Bool.false_and, Bool.false_and] at this
      exact absurd this (by decide)
    rw [if_neg c1]
    have okx : okD (e + 1) (!k4) x = okD (e + 1) true x := by
      cases k4 with
      | false => rfl
      | true => rw [Bool.not_true, okD_val, decide_eq_true (p := x.k ≠ 7) (fun g => c1 ⟨rfl, g⟩), Bool.true_and]
    by_cases c2 : (f x (left - z)).2.2 = true
    · rw [if_pos c2]
      obtain ⟨q1, q2⟩ := s2 c2
      obtain ⟨o1, o2, o3, o4⟩ := s1.1 c2
      have ih := mzL_spec (e + 1) f k4 left nest r (z + szD (e + 1) x) (max p (dpD (e + 1) x)) (fun y hy => hf y (List.mem_cons_of_mem _ hy)) (by omega)
      have e1 : (z : Int) + (f x (left - z)).1 = ((z + szD (e + 1) x : Nat) : Int) := by rw [q1]; omega
      have e2 : max (p : Int) (f x (left - z)).2.1 = ((max p (dpD (e + 1) x) : Nat) : Int) := by rw [q2]; omega
      rw [e1, e2]
      simp only [List.all_cons, List.map_cons, List.sum_cons, List.foldl_cons, List.mem_cons, forall_eq_or_imp, Bool.and_eq_true, okx]
      rw [← Nat.add_assoc]
      refine ⟨?_, ih.2⟩
      rw [ih.1]
      exact ⟨fun ⟨a, b, c, g⟩ => ⟨⟨o1, a⟩, b, c, o4, g⟩, fun ⟨⟨_, a⟩, b, c, _, g⟩ => ⟨a, b, c, g⟩⟩
    · rw [if_neg c2]
      refine ⟨⟨fun g => absurd g (by decide), fun g => ?_⟩, fun g => absurd g (by decide)⟩
      obtain ⟨a, b, c, g⟩ := g
      simp only [List.all_cons, List.map_cons, List.sum_cons, List.foldl_cons, List.mem_cons, forall_eq_or_imp, Bool.and_eq_true, okx] at a b c g
      refine absurd (s1.2 ⟨a.1, by omega, ?_, g.1⟩) c2
      have := (fold_le (r.map (dpD (e + 1))) (max p (dpD (e + 1) x)) 31).1 (by omega)
      omega
theorem mz_spec : ∀ (d : Nat) (t : Vt) (nest : Int), LfT d t → 0 ≤ nest → MzS d t nest (fun left => mz d t left nest)
  | 0, _, _, h, _ => h.elim
  | d + 1, t, nest, h, hn => by
    intro left
    dsimp only
    have hp := szD_pos (d + 1) t
    unfold mz
    by_cases c1 : left < 1 ∨ 32 < nest
    · rw [if_pos c1]
      exact ⟨⟨fun g => absurd g (by decide), fun ⟨_, g1, _, g2⟩ => by omega⟩, fun g => absurd g (by decide)⟩
    rw [if_neg c1]
    by_cases c2 : t.k = 4 ∨ t.k = 5
    · rw [if_pos c2]
      have key := mzL_spec d (fun x lf => mz d x lf (nest + 1)) (decide (t.k = 4)) left nest t.l 1 0 (fun x hx => ⟨by
        cases d with
        | zero => exact (h.2 x hx).elim
        | succ d => exact ⟨d, rfl⟩, mz_spec d x (nest + 1) (h.2 x hx) (by omega)⟩) (by omega)
      have e5 : (!decide (t.k = 4)) = decide (t.k = 5) := by
        rcases c2 with c | c
        · rw [c]; rfl
        · rw [c]; rfl
      rw [e5] at key
      have e0 : ((1 : Nat) : Int) = 1 := rfl
      have e00 : ((0 : Nat) : Int) = 0 := rfl
      rw [e0, e00] at key
      obtain ⟨k1, k2⟩ := key
      have hh : (nest + hgD (d + 1) t ≤ 32) ↔ ∀ x ∈ t.l, nest + 1 + hgD d x ≤ 32 := by
        rw [show hgD (d + 1) t = (t.l.map fun x => 1 + hgD d x).foldl max 0 from rfl]
        constructor
        · intro g x hx
          have := ((fold_le (t.l.map fun x => 1 + hgD d x) 0 _).1 (Nat.le_refl _)).2 _ (List.mem_map.2 ⟨x, hx, rfl⟩)
          omega
        · intro g
          obtain ⟨m, hm⟩ : ∃ m : Nat, nest + m = 32 := ⟨(32 - nest).toNat, by omega⟩
          have := (fold_le (t.l.map fun x => 1 + hgD d x) 0 m).2 ⟨Nat.zero_le _, fun y hy => by
            obtain ⟨x, hx, rfl⟩ := List.mem_map.1 hy
            have := g x hx
            omega⟩
          omega
      have ho : okD (d + 1) true t = t.l.all (okD d (decide (t.k = 5))) := by unfold okD; rw [if_pos c2]
      have hd : dpD (d + 1) t = 1 + (t.l.map (dpD d)).foldl max 0 := by unfold dpD; rw [if_pos c2]
      refine ⟨?_, fun g => ?_⟩
      · rw [k1, hh, ho, hd]
        constructor
        · rintro ⟨a, b, c, g⟩; exact ⟨a, b, by omega, g⟩
        · rintro ⟨a, b, c, g⟩; exact ⟨a, b, by omega, g⟩
      · obtain ⟨a, b⟩ := k2 g
        exact ⟨a, by rw [b, hd]; omega⟩
    rw [if_neg c2]
    have hl : t.l = [] := h.1 c2
    have hs : szD (d + 1) t = 1 := by unfold szD; rw [hl]; rfl
    have hd : dpD (d + 1) t = 0 := by unfold dpD; rw [if_neg c2]
    have hg : hgD (d + 1) t = 0 := by unfold hgD; rw [hl]; rfl
    have ho : okD (d + 1) true t = if t.k = 7 then clB t.s else alB t := by
      unfold okD
      rw [if_neg c2]
      by_cases h7 : t.k = 7
      · rw [if_pos h7, if_pos ⟨rfl, h7⟩]
      · rw [if_neg h7, if_neg (fun g => h7 g.2)]
    by_cases c3 : 1 ≤ t.k ∧ t.k ≤ 7
    · rw [if_pos c3]
      dsimp only
      rw [hs, hd, hg, ho]
      exact ⟨⟨fun g => ⟨g, by omega, by omega, by omega⟩, fun g => g.1⟩, fun _ => ⟨rfl, rfl⟩⟩
    · rw [if_neg c3]
      refine ⟨⟨fun g => absurd g (by decide), fun g => ?_⟩, fun g => absurd g (by decide)⟩
      have g1 := g.1
      rw [ho, if_neg (by omega)] at g1
      unfold alB at g1
      rw [if_neg (by omega), if_neg (by omega), if_neg (by omega), decide_eq_true_eq] at g1
      omega
/-- is a tree sound, as the document has it? -/
def dsB (d : Nat) (t : Vt) : Bool := (mz d t 1024 0).2.2 && decide (t.k ≠ 7)
theorem ds_sd {d D : Nat} {t : Vt} (h : LfT d t) (hD : 2 * d + 1 ≤ D) : sdB D t = dsB d t := by
  have h1 := ok_eq d t h false D (by simpa using hD)
  have h2 := (mz_spec d t 0 h (Int.le_refl _) 1024).1
  have h3 := hg_dp d t h
  unfold sdB msB dsB
  rw [h1.1, h1.2.1, h1.2.2]
  cases d with
  | zero => exact h.elim
  | succ d =>
    rw [okD_val, Bool.eq_iff_iff]
    simp only [Bool.and_eq_true, decide_eq_true_eq, Nat.zero_add]
    dsimp only at h2
    rw [h2]
    constructor
    · rintro ⟨⟨⟨a, b⟩, c⟩, g⟩; exact ⟨⟨b, by omega, g, by omega⟩, a⟩
    · rintro ⟨⟨a, b, c, _⟩, g⟩; exact ⟨⟨⟨g, a⟩, by omega⟩, c⟩
theorem smL_congr {f g : Vt → Vt → Bool} : ∀ (a b : List Vt), (∀ x ∈ a, ∀ y ∈ b, f x y = g x y) → smL f a b = smL g a b
  | [], [], _ => rfl
  | [], _ :: _, _ => rfl
  | _ :: _, [], _ => rfl
  | x :: a, y :: b, h => by
    show (f x y && smL f a b) = (g x y && smL g a b)
    rw [h x (List.mem_cons_self ..) y (List.mem_cons_self ..), smL_congr a b (fun x hx y hy => h x (List.mem_cons_of_mem _ hx) y (List.mem_cons_of_mem _ hy))]
theorem sm_sa : ∀ (d : Nat) (a b : Vt), LfT d a → LfT d b → ∀ (i : Bool) (F : Nat), 2 * d + 1 + (if i = true then 1 else 0) ≤ F → okD d i a = true → smV F i a b = saV d a b
  | 0, _, _, h, _, _, _, _, _ => h.elim
  | d + 1, a, b, ha, hb, i, F, hF, hok => by
    have val : ∀ F', 2 * (d + 1) + 1 ≤ F' → a.k ≠ 7 → smV F' false a b = saV (d + 1) a b := by
      intro F' hF' h7
      obtain ⟨G, rfl⟩ : ∃ G, F' = G + 1 := ⟨F' - 1, by omega⟩
      unfold smV saV
      by_cases hk : a.k = b.k
      · rw [← hk, decide_eq_true rfl, Bool.true_and, Bool.true_and]
        by_cases hl : a.k = 4 ∨ a.k = 5
        · rw [if_neg (by omega), if_neg (by omega), if_neg (by omega)]
          have hs : saL a.k a.n b.n a.s b.s = true := by
            unfold saL
            rw [if_neg (by omega), if_neg (by omega), if_neg (by omega)]
          rw [hs, Bool.and_true]
          have hall : ∀ x ∈ a.l, okD d (decide (a.k = 5)) x = true := by
            unfold okD at hok
            rw [if_pos hl, List.all_eq_true] at hok
            exact hok
          rw [smL_congr a.l b.l (fun x hx y hy => sm_sa d x y (ha.2 x hx) (hb.2 y hy) (decide (a.k = 5)) G (by split <;> omega) (hall x hx))]
          by_cases hlen : a.l.length = b.l.length
          · rw [decide_eq_true hlen, Bool.true_and]
          · rw [smL_len _ _ _ hlen, Bool.and_false]
        · have la := ha.1 hl
          have lb := hb.1 (by omega)
          rw [la, lb]
          show _ = (decide (0 = 0) && saL a.k a.n b.n a.s b.s && true)
          rw [decide_eq_true rfl, Bool.true_and, Bool.and_true]
          unfold saL
          by_cases h1 : a.k = 1 ∨ a.k = 6
          · rw [if_pos h1, if_pos h1]
          rw [if_neg h1, if_neg h1]
          by_cases h2 : a.k = 2
          · rw [if_pos h2, if_neg (by omega), if_pos (.inl h2)]
          rw [if_neg h2]
          by_cases h3 : a.k = 3
          · rw [if_pos h3, if_pos h3]
          rw [if_neg h3, if_neg h3, if_neg (by omega)]
          rfl
      · rw [decide_eq_false hk, Bool.false_and, Bool.false_and, Bool.false_and, Bool.false_and]
    cases i with
    | false =>
      refine val F (by simpa using hF) (fun h7 => ?_)
      rw [okD_val, decide_eq_false (p := _ ≠ 7) (fun g => g h7), Bool.false_and] at hok
      exact absurd hok (by decide)
    | true =>
      obtain ⟨G, rfl⟩ : ∃ G, F = G + 1 := ⟨F - 1, by simp at hF; omega⟩
      by_cases h7 : a.k = 7 ∨ b.k = 7
      · rw [show smV (G + 1) true a b = (decide (a.k = 7) && decide (b.k = 7) && (a.s.toList == b.s.toList)) from (show (if a.k = 7 ∨ b.k = 7 then decide (a.k = 7) && decide (b.k = 7) && (a.s.toList == b.s.toList) else smV G false a b) = _ by rw [if_pos h7])]
        unfold saV
        by_cases hk : a.k = b.k
        · have a7 : a.k = 7 := by omega
          have b7 : b.k = 7 := by omega
          rw [ha.1 (by omega), hb.1 (by omega), a7, b7]
          show _ = (decide ((7 : Int) = 7) && decide (0 = 0) && saL 7 a.n b.n a.s b.s && true)
          rw [show saL 7 a.n b.n a.s b.s = (a.s.toList == b.s.toList) from by unfold saL; rw [if_neg (by omega), if_neg (by omega), if_pos (.inr rfl)]]
          simp
        · rw [decide_eq_false hk, Bool.false_and, Bool.false_and, Bool.false_and]
          rcases h7 with h7 | h7
          · rw [decide_eq_false (p := b.k = 7) (by omega), Bool.and_false, Bool.false_and]
          · rw [decide_eq_false (p := a.k = 7) (by omega), Bool.false_and, Bool.false_and]
      · rw [show smV (G + 1) true a b = smV G false a b from (show (if a.k = 7 ∨ b.k = 7 then decide (a.k = 7) && decide (b.k = 7) && (a.s.toList == b.s.toList) else smV G false a b) = smV G false a b by rw [if_neg h7])]
        exact val G (by simp at hF; omega) (fun g => h7 (.inl g))
end Go.Proofs.YtmpfbjmaiddigaaGreatDoor
namespace Go.Proofs.YtmpfbjmaiddigaaGreatDoor
open Go.RowKit Go.Lib
set_option linter.unusedSimpArgs false
set_option linter.unusedVariables false
theorem nm_sm : ∀ (d : Nat) (i : Bool) (t : Vt), SmT d t → SmT d (nm d i t)
  | 0, _, _, h => h.elim
  | d + 1, i, t, h => by
    obtain ⟨k, n, s, l⟩ := t
    obtain ⟨h1, h2, h3, h4, h5⟩ := h
    dsimp only at h1 h2 h3 h4 h5
    have z : ∀ m : Int, m ∈ [0, 1, 2, 3, 4, 5, 6, 7, 8] → (-9223372036854775808 : Int) ≤ m ∧ m ≤ 9223372036854775807 := fun m hm => by
      simp only [List.mem_cons, List.not_mem_nil, or_false] at hm
      omega
    have e0 : (⟨#[]⟩ : ByteArray).size ≤ 140737488355328 := Nat.zero_le _
    unfold nm
    dsimp only
    split
    · exact ⟨e0, Nat.zero_le _, z 1 (by simp), h4, fun x hx => by cases hx⟩
    split
    · exact ⟨h1, Nat.zero_le _, z 2 (by simp), z 0 (by simp), fun x hx => by cases hx⟩
    split
    · refine ⟨e0, Nat.zero_le _, z 3 (by simp), ?_, fun x hx => by cases hx⟩
      dsimp only
      split
      · exact z 1 (by simp)
      · exact z 0 (by simp)
    split
    · refine ⟨e0, by simpa using h2, z 4 (by simp), z 0 (by simp), fun x hx => ?_⟩
      obtain ⟨y, hy, rfl⟩ := List.mem_map.1 hx
      exact nm_sm d false y (h5 y hy)
    split
    · refine ⟨e0, by simpa using h2, z 5 (by simp), z 0 (by simp), fun x hx => ?_⟩
      obtain ⟨y, hy, rfl⟩ := List.mem_map.1 hx
      exact nm_sm d true y (h5 y hy)
    split
    · exact ⟨e0, Nat.zero_le _, z 6 (by simp), h4, fun x hx => by cases hx⟩
    split
    · exact ⟨h1, Nat.zero_le _, z 7 (by simp), z 0 (by simp), fun x hx => by cases hx⟩
    · exact ⟨e0, Nat.zero_le _, z 8 (by simp), z 0 (by simp), fun x hx => by cases hx⟩
/-- what a tree that came in has become as a value x, since block B: its own blocks, and what is known of its tree -/
def Vx (w : World) (B d : Nat) (t : Vt) (x : Value) : Prop := NiAt w B (2 * d + 1) false (nm d false t) x
theorem Vx.only {w w' : World} {B d : Nat} {t : Vt} {x : Value} {bs : Nat → Prop} (h : Vx w B d t x) (o : Only bs w w') (hb : ∀ b, B ≤ b → ¬ bs b) : Vx w' B d t x := NiAt.only h o hb
theorem value_calls {a : Vt} {va : Value} {d : Nat} {w : World} (ha : VsAt w (fun _ => True) d a.l va) (sa : SmT d a) : ∀ w1, Only (fun _ => False) w w1 → Calls Tryz.prog 30 #[.agg #[.int .i64 a.k, .int .i64 a.n, .string a.s, va]] w1 fun e w' => ∃ v, e = .returned v ∧ Hid (Vx w' w1.heap.size d a v ∧ Only (fun _ => False) w1 w') := fun w1 o1 => value_all d a va w1 _ (ha.only o1) sa
end Go.Proofs.YtmpfbjmaiddigaaGreatDoor
namespace Go.Proofs.YtmpfbjmaiddigaaGreatDoor
open Go.RowKit
set_option linter.unusedSimpArgs false
set_option linter.unusedVariables false
/-- what the trees of many are -/
def TuS (d F : Nat) (i : Bool) : Prop := ∀ (v : Value) (l : List Vt) (w : World) (S : Nat → Prop), QiAt w S d i v l → l.length ≤ 2513169434900 → (∀ x ∈ l, ∃ e, NfT e x) → Calls Tryz.prog F #[v] w fun e w' => ∃ ao cap, e = .returned (.slice ao l.length cap) ∧ Hid (UrAt w' w.heap.size d (.slice ao l.length cap) l ∧ Only (fun _ => False) w w')
/-- what the tree of one is -/
def TuE (d F : Nat) (i : Bool) : Prop := ∀ (v : Value) (t : Vt) (w : World) (S : Nat → Prop), TiAt w S d i t v → (∃ e, NfT e t) → Calls Tryz.prog F #[v] w fun e w' => ∃ lv, e = .returned (.agg #[.int .i64 t.k, .int .i64 (t.n), .string (t.s), lv]) ∧ Hid (NuAt w' w.heap.size d t lv ∧ Only (fun _ => False) w w')
theorem uresults_v {fn : Func} {u : Tmp} (h : fn.results = #[.cell u 54]) (tmps : Array Value) (w : World) (B : Nat) {x y z r : Value} (h0 : w.cell? ⟨B, 0, none⟩ = some x) (h1 : w.cell? ⟨B, 1, none⟩ = some y) (h2 : w.cell? ⟨B, 2, none⟩ = some z) (h3 : w.cell? ⟨B, 3, none⟩ = some r) (ha : tmps.getD u undef = .pointer (some ⟨B, 0, none⟩)) :
    (results fn tmps).run Tryz.prog w = .ok (.agg #[x, y, z, r]) w := by
  have ha' : tmps[u]?.getD undef = .pointer (some ⟨B, 0, none⟩) := by simpa using ha
  simp [results, h, ha', asAddr, go_sem, loadVar, isAgg, Tryz.underlying54, h0, h1, h2, h3]
theorem uonly4 {w : World} {B : Nat} (x0 x1 x2 x3 : Value) : Only (fun b => b = B) w ((((w.setCell ⟨B, 0, none⟩ x0).setCell ⟨B, 1, none⟩ x1).setCell ⟨B, 2, none⟩ x2).setCell ⟨B, 3, none⟩ x3) :=
  ((((Only.refl (fun b => b = B) w).setCell ⟨B, 0, none⟩ _ (fun _ => rfl)).setCell ⟨B, 1, none⟩ _ (fun _ => rfl)).setCell ⟨B, 2, none⟩ _ (fun _ => rfl)).setCell ⟨B, 3, none⟩ _ (fun _ => rfl)
set_option maxRecDepth 100000 in
theorem uzero_Int (W : World) : (zeroValue 88).run Tryz.prog W = .ok (.agg #[.int .i64 0]) W := by rfl
set_option maxRecDepth 100000 in
theorem uzero_Str (W : World) : (zeroValue 118).run Tryz.prog W = .ok (.agg #[.string ⟨#[]⟩]) W := by rfl
set_option maxRecDepth 100000 in
theorem uzero_Bool (W : World) : (zeroValue 120).run Tryz.prog W = .ok (.agg #[.bool false]) W := by rfl
set_option maxRecDepth 100000 in
theorem uzero_List (W : World) : (zeroValue 85).run Tryz.prog W = .ok (.agg #[.slice none 0 0]) W := by rfl
set_option maxRecDepth 100000 in
theorem uzero_Quot (W : World) : (zeroValue 90).run Tryz.prog W = .ok (.agg #[.slice none 0 0]) W := by rfl
set_option maxRecDepth 100000 in
theorem uzero_Push (W : World) : (zeroValue 81).run Tryz.prog W = .ok (.agg #[.nilIface]) W := by rfl
set_option maxRecDepth 100000 in
theorem uzero_Call (W : World) : (zeroValue 48).run Tryz.prog W = .ok (.agg #[.string ⟨#[]⟩]) W := by rfl
set_option maxRecDepth 100000 in
theorem utree_int (n : Int) (w : World) : Calls Tryz.prog 31 #[.iface 88 (.agg #[.int .i64 n])] w fun e w' => e = .returned (.agg #[.int .i64 1, .int .i64 n, .string ⟨#[]⟩, .slice none 0 0]) ∧ Only (fun _ => False) w w' := by
  have hInt := uas_hit 88 79 _ Tryz.underlying88 (by intro m h; cases h)
  have O0 : Hid (Only (fun _ => False) w w) := Only.refl _ _
  go_enter Tryz.func31, Tryz.ntmps31
  go_wp2
  refine bodyPost_ret (uresults_v rfl _ _ w.heap.size (x := _) (y := _) (z := _) (r := _) ?_ ?_ ?_ ?_ rfl) rfl ⟨rfl, ?_⟩
  · simp [go_sem]
  · simp [go_sem]
  · simp [go_sem]
  · simp [go_sem]
  · first
      | exact ((O0.out.alloc _).alloc _)
      | exact (((((O0.out.alloc _).alloc _).setCell _ _ (fun h => absurd h (by simp))).setCell _ _ (fun h => absurd h (by simp))).setCell _ _ (fun h => absurd h (by simp))).setCell _ _ (fun h => absurd h (by simp))
set_option maxRecDepth 100000 in
theorem utree_str (x : ByteArray) (w : World) : Calls Tryz.prog 31 #[.iface 118 (.agg #[.string x])] w fun e w' => e = .returned (.agg #[.int .i64 2, .int .i64 0, .string x, .slice none 0 0]) ∧ Only (fun _ => False) w w' := by
  have mInt := uas_miss 118 88 79 _ Tryz.underlying88 (by intro m h; cases h) (by decide) _ uzero_Int
  have hStr := uas_hit 118 79 _ Tryz.underlying118 (by intro m h; cases h)
  have O0 : Hid (Only (fun _ => False) w w) := Only.refl _ _
  go_enter Tryz.func31, Tryz.ntmps31
  go_wp2
  refine bodyPost_ret (uresults_v rfl _ _ w.heap.size (x := _) (y := _) (z := _) (r := _) ?_ ?_ ?_ ?_ rfl) rfl ⟨rfl, ?_⟩
  · simp [go_sem]
  · simp [go_sem]
  · simp [go_sem]
  · simp [go_sem]
  · first
      | exact ((O0.out.alloc _).alloc _)
      | exact (((((O0.out.alloc _).alloc _).setCell _ _ (fun h => absurd h (by simp))).setCell _ _ (fun h => absurd h (by simp))).setCell _ _ (fun h => absurd h (by simp))).setCell _ _ (fun h => absurd h (by simp))
set_option maxRecDepth 100000 in
theorem utree_yes  (w : World) : Calls Tryz.prog 31 #[.iface 120 (.agg #[.bool true])] w fun e w' => e = .returned (.agg #[.int .i64 3, .int .i64 1, .string ⟨#[]⟩, .slice none 0 0]) ∧ Only (fun _ => False) w w' := by
  have mInt := uas_miss 120 88 79 _ Tryz.underlying88 (by intro m h; cases h) (by decide) _ uzero_Int
  have mStr := uas_miss 120 118 79 _ Tryz.underlying118 (by intro m h; cases h) (by decide) _ uzero_Str
  have hBool := uas_hit 120 79 _ Tryz.underlying120 (by intro m h; cases h)
  have O0 : Hid (Only (fun _ => False) w w) := Only.refl _ _
  go_enter Tryz.func31, Tryz.ntmps31
  go_wp2
  refine bodyPost_ret (uresults_v rfl _ _ w.heap.size (x := _) (y := _) (z := _) (r := _) ?_ ?_ ?_ ?_ rfl) rfl ⟨rfl, ?_⟩
  · simp [go_sem]
  · simp [go_sem]
  · simp [go_sem]
  · simp [go_sem]
  · first
      | exact ((O0.out.alloc _).alloc _)
      | exact (((((O0.out.alloc _).alloc _).setCell _ _ (fun h => absurd h (by simp))).setCell _ _ (fun h => absurd h (by simp))).setCell _ _ (fun h => absurd h (by simp))).setCell _ _ (fun h => absurd h (by simp))
set_option maxRecDepth 100000 in
theorem utree_no  (w : World) : Calls Tryz.prog 31 #[.iface 120 (.agg #[.bool false])] w fun e w' => e = .returned (.agg #[.int .i64 3, .int .i64 0, .string ⟨#[]⟩, .slice none 0 0]) ∧ Only (fun _ => False) w w' := by
  have mInt := uas_miss 120 88 79 _ Tryz.underlying88 (by intro m h; cases h) (by decide) _ uzero_Int
  have mStr := uas_miss 120 118 79 _ Tryz.underlying118 (by intro m h; cases h) (by decide) _ uzero_Str
  have hBool := uas_hit 120 79 _ Tryz.underlying120 (by intro m h; cases h)
  have O0 : Hid (Only (fun _ => False) w w) := Only.refl _ _
  go_enter Tryz.func31, Tryz.ntmps31
  go_wp2
  refine bodyPost_ret (uresults_v rfl _ _ w.heap.size (x := _) (y := _) (z := _) (r := _) ?_ ?_ ?_ ?_ rfl) rfl ⟨rfl, ?_⟩
  · simp [go_sem]
  · simp [go_sem]
  · simp [go_sem]
  · simp [go_sem]
  · first
      | exact ((O0.out.alloc _).alloc _)
      | exact (((((O0.out.alloc _).alloc _).setCell _ _ (fun h => absurd h (by simp))).setCell _ _ (fun h => absurd h (by simp))).setCell _ _ (fun h => absurd h (by simp))).setCell _ _ (fun h => absurd h (by simp))
set_option maxRecDepth 100000 in
theorem utree_call (x : ByteArray) (w : World) : Calls Tryz.prog 16 #[.iface 48 (.agg #[.string x])] w fun e w' => e = .returned (.agg #[.int .i64 7, .int .i64 0, .string x, .slice none 0 0]) ∧ Only (fun _ => False) w w' := by
  have mPush := uas_miss 48 81 36 _ Tryz.underlying81 (by intro m h; cases h) (by decide) _ uzero_Push
  have hCall := uas_hit 48 36 _ Tryz.underlying48 (by intro m h; cases h)
  have O0 : Hid (Only (fun _ => False) w w) := Only.refl _ _
  go_enter Tryz.func16, Tryz.ntmps16
  go_wp2
  refine bodyPost_ret (uresults_v rfl _ _ w.heap.size (x := _) (y := _) (z := _) (r := _) ?_ ?_ ?_ ?_ rfl) rfl ⟨rfl, ?_⟩
  · simp [go_sem]
  · simp [go_sem]
  · simp [go_sem]
  · simp [go_sem]
  · first
      | exact ((O0.out.alloc _).alloc _)
      | exact (((((O0.out.alloc _).alloc _).setCell _ _ (fun h => absurd h (by simp))).setCell _ _ (fun h => absurd h (by simp))).setCell _ _ (fun h => absurd h (by simp))).setCell _ _ (fun h => absurd h (by simp))
set_option maxRecDepth 100000 in
theorem utree_list (d : Nat) (l : List Vt) (ao : Option Addr) (cap : Nat) (w : World) (S : Nat → Prop) (HT : TuS d 48 false) (h : QiAt w S d false (.slice ao l.length cap) l) (hl : l.length ≤ 2513169434900) (hw : ∀ x ∈ l, ∃ e, NfT e x) : Calls Tryz.prog 31 #[.iface 85 (.agg #[.slice ao l.length cap])] w fun e w' => ∃ ao' cap', e = .returned (.agg #[.int .i64 4, .int .i64 0, .string ⟨#[]⟩, .slice ao' l.length cap']) ∧ Hid (UrAt w' w.heap.size d (.slice ao' l.length cap') l ∧ Only (fun _ => False) w w') := by
  have HC : Hid (∀ w1, Only (fun _ => False) w w1 → Calls Tryz.prog 48 #[.slice ao l.length cap] w1 fun e w' => ∃ ao cap, e = .returned (.slice ao l.length cap) ∧ Hid (UrAt w' w1.heap.size d (.slice ao l.length cap) l ∧ Only (fun _ => False) w1 w')) := fun w1 o1 => HT _ _ _ S (h.step (fun _ g => g) (fun a u _ hc => o1.cell hc (fun g => g)) (Nat.le_refl _)) hl hw
  have mInt := uas_miss 85 88 79 _ Tryz.underlying88 (by intro m h; cases h) (by decide) _ uzero_Int
  have mStr := uas_miss 85 118 79 _ Tryz.underlying118 (by intro m h; cases h) (by decide) _ uzero_Str
  have mBool := uas_miss 85 120 79 _ Tryz.underlying120 (by intro m h; cases h) (by decide) _ uzero_Bool
  have hList := uas_hit 85 79 _ Tryz.underlying85 (by intro m h; cases h)
  have O0 : Hid (Only (fun _ => False) w w) := Only.refl _ _
  clear HT h hl hw
  obtain ⟨L, hL⟩ : ∃ L, L = l.length := ⟨_, rfl⟩
  have HL : Hid (L = l.length) := hL
  rw [← hL] at HC
  rw [← hL]
  clear hL
  go_enter Tryz.func31, Tryz.ntmps31
  go_wp2_with fail
  refine (show Calls Tryz.prog 48 _ _ _ from HC.out _ ((O0.out.alloc _).alloc _)).mono ?_
  rintro e w1 ⟨ao', cap', rfl, g1⟩
  have R3 : w1.heap[w.heap.size]? = some (.cells #[.int .i64 0, .int .i64 0, .string ⟨#[]⟩, .slice none 0 0] 54) := (g1.out.2.block w.heap.size (by simp; omega) (fun h => h)).trans ((((Only.refl (fun _ => False) (w.alloc (.cells #[.int .i64 0, .int .i64 0, .string ⟨#[]⟩, .slice none 0 0] 54))).alloc _).block w.heap.size (by simp) (fun h => h)).trans (valloc_at _ _ _ rfl))
  have G1 : Hid (UrAt w1 (w.heap.size + 1) d (.slice ao' L cap') l ∧ Only (fun _ => False) w w1) := by
    obtain ⟨us, SS, ho, ht, hS⟩ := g1.out.1
    have e1 : L = l.length := HL.out
    refine ⟨⟨us, SS, ⟨ho.1, ?_⟩, ht, fun b hb => ⟨by have := (hS b hb).1; simp at this; omega, (hS b hb).2⟩⟩, ((O0.out.alloc _).alloc _).trans g1.out.2 (fun _ _ g => g)⟩
    rcases ho.2 with g | ⟨g, cc, cur, h1, h2, h3⟩
    · exact .inl g
    · exact .inr ⟨g, cc, cur, h1, by simp at h2; omega, h3⟩
  clear g1 HC O0
  obtain ⟨B, hBe⟩ : ∃ B, B = w.heap.size := ⟨_, rfl⟩
  have HE : Hid (B = w.heap.size) := hBe
  rw [← hBe] at R3 ⊢
  have c0 := blk_cells R3 0
  have c1 := blk_cells R3 1
  have c2 := blk_cells R3 2
  have c3 := blk_cells R3 3
  have z0 := blk_froz R3 0
  have z1 := blk_froz R3 1
  have z2 := blk_froz R3 2
  have z3 := blk_froz R3 3
  have HR3 : Hid (w1.heap[B]? = some (.cells #[.int .i64 0, .int .i64 0, .string ⟨#[]⟩, .slice none 0 0] 54)) := R3
  simp only [List.getElem?_toArray, List.getElem?_cons_zero, List.getElem?_cons_succ] at c0 c1 c2 c3
  clear R3 hBe
  go_wp2
  obtain ⟨p0, p1, p2, p3⟩ := set4 HR3.out rfl (.int .i64 4) (.int .i64 0) (.string ⟨#[]⟩) (.slice ao' L cap')
  have e1 : L = l.length := HL.out
  have hBe : B = w.heap.size := HE.out
  have OB := @uonly4 w1 B (.int .i64 4) (.int .i64 0) (.string ⟨#[]⟩) (.slice ao' L cap')
  refine bodyPost_ret (uresults_v rfl _ _ B p0 p1 p2 p3 rfl) rfl ⟨ao', cap', rfl, ?_, G1.out.2.trans OB (fun b h e => by omega)⟩
  obtain ⟨us, SS, ho, ht, hS⟩ := G1.out.1.only OB (fun b h e => by omega)
  refine ⟨us, SS, ⟨ho.1, ?_⟩, ht, fun b hb => ⟨by have := (hS b hb).1; omega, (hS b hb).2⟩⟩
  rcases ho.2 with g | ⟨g, cc, cur, h1, h2, h3⟩
  · exact .inl g
  · exact .inr ⟨g, cc, cur, h1, by omega, h3⟩
set_option maxRecDepth 100000 in
theorem utree_quot (d : Nat) (l : List Vt) (ao : Option Addr) (cap : Nat) (w : World) (S : Nat → Prop) (HT : TuS d 6 true) (h : QiAt w S d true (.slice ao l.length cap) l) (hl : l.length ≤ 2513169434900) (hw : ∀ x ∈ l, ∃ e, NfT e x) : Calls Tryz.prog 31 #[.iface 90 (.agg #[.slice ao l.length cap])] w fun e w' => ∃ ao' cap', e = .returned (.agg #[.int .i64 5, .int .i64 0, .string ⟨#[]⟩, .slice ao' l.length cap']) ∧ Hid (UrAt w' w.heap.size d (.slice ao' l.length cap') l ∧ Only (fun _ => False) w w') := by
  have HC : Hid (∀ w1, Only (fun _ => False) w w1 → Calls Tryz.prog 6 #[.slice ao l.length cap] w1 fun e w' => ∃ ao cap, e = .returned (.slice ao l.length cap) ∧ Hid (UrAt w' w1.heap.size d (.slice ao l.length cap) l ∧ Only (fun _ => False) w1 w')) := fun w1 o1 => HT _ _ _ S (h.step (fun _ g => g) (fun a u _ hc => o1.cell hc (fun g => g)) (Nat.le_refl _)) hl hw
  have mInt := uas_miss 90 88 79 _ Tryz.underlying88 (by intro m h; cases h) (by decide) _ uzero_Int
  have mStr := uas_miss 90 118 79 _ Tryz.underlying118 (by intro m h; cases h) (by decide) _ uzero_Str
  have mBool := uas_miss 90 120 79 _ Tryz.underlying120 (by intro m h; cases h) (by decide) _ uzero_Bool
  have mList := uas_miss 90 85 79 _ Tryz.underlying85 (by intro m h; cases h) (by decide) _ uzero_List
  have hQuot := uas_hit 90 79 _ Tryz.underlying90 (by intro m h; cases h)
  have O0 : Hid (Only (fun _ => False) w w) := Only.refl _ _
  clear HT h hl hw
  obtain ⟨L, hL⟩ : ∃ L, L = l.length := ⟨_, rfl⟩
  have HL : Hid (L = l.length) := hL
  rw [← hL] at HC
  rw [← hL]
  clear hL
  go_enter Tryz.func31, Tryz.ntmps31
  go_wp2_with fail
  refine (show Calls Tryz.prog 6 _ _ _ from HC.out _ ((O0.out.alloc _).alloc _)).mono ?_
  rintro e w1 ⟨ao', cap', rfl, g1⟩
  have R3 : w1.heap[w.heap.size]? = some (.cells #[.int .i64 0, .int .i64 0, .string ⟨#[]⟩, .slice none 0 0] 54) := (g1.out.2.block w.heap.size (by simp; omega) (fun h => h)).trans ((((Only.refl (fun _ => False) (w.alloc (.cells #[.int .i64 0, .int .i64 0, .string ⟨#[]⟩, .slice none 0 0] 54))).alloc _).block w.heap.size (by simp) (fun h => h)).trans (valloc_at _ _ _ rfl))
  have G1 : Hid (UrAt w1 (w.heap.size + 1) d (.slice ao' L cap') l ∧ Only (fun _ => False) w w1) := by
    obtain ⟨us, SS, ho, ht, hS⟩ := g1.out.1
    have e1 : L = l.length := HL.out
    refine ⟨⟨us, SS, ⟨ho.1, ?_⟩, ht, fun b hb => ⟨by have := (hS b hb).1; simp at this; omega, (hS b hb).2⟩⟩, ((O0.out.alloc _).alloc _).trans g1.out.2 (fun _ _ g => g)⟩
    rcases ho.2 with g | ⟨g, cc, cur, h1, h2, h3⟩
    · exact .inl g
    · exact .inr ⟨g, cc, cur, h1, by simp at h2; omega, h3⟩
  clear g1 HC O0
  obtain ⟨B, hBe⟩ : ∃ B, B = w.heap.size := ⟨_, rfl⟩
  have HE : Hid (B = w.heap.size) := hBe
  rw [← hBe] at R3 ⊢
  have c0 := blk_cells R3 0
  have c1 := blk_cells R3 1
  have c2 := blk_cells R3 2
  have c3 := blk_cells R3 3
  have z0 := blk_froz R3 0
  have z1 := blk_froz R3 1
  have z2 := blk_froz R3 2
  have z3 := blk_froz R3 3
  have HR3 : Hid (w1.heap[B]? = some (.cells #[.int .i64 0, .int .i64 0, .string ⟨#[]⟩, .slice none 0 0] 54)) := R3
  simp only [List.getElem?_toArray, List.getElem?_cons_zero, List.getElem?_cons_succ] at c0 c1 c2 c3
  clear R3 hBe
  go_wp2
  obtain ⟨p0, p1, p2, p3⟩ := set4 HR3.out rfl (.int .i64 5) (.int .i64 0) (.string ⟨#[]⟩) (.slice ao' L cap')
  have e1 : L = l.length := HL.out
  have hBe : B = w.heap.size := HE.out
  have OB := @uonly4 w1 B (.int .i64 5) (.int .i64 0) (.string ⟨#[]⟩) (.slice ao' L cap')
  refine bodyPost_ret (uresults_v rfl _ _ B p0 p1 p2 p3 rfl) rfl ⟨ao', cap', rfl, ?_, G1.out.2.trans OB (fun b h e => by omega)⟩
  obtain ⟨us, SS, ho, ht, hS⟩ := G1.out.1.only OB (fun b h e => by omega)
  refine ⟨us, SS, ⟨ho.1, ?_⟩, ht, fun b hb => ⟨by have := (hS b hb).1; omega, (hS b hb).2⟩⟩
  rcases ho.2 with g | ⟨g, cc, cur, h1, h2, h3⟩
  · exact .inl g
  · exact .inr ⟨g, cc, cur, h1, by omega, h3⟩
set_option maxRecDepth 100000 in
theorem uzero_Box (W : World) : (zeroValue 123).run Tryz.prog W = .ok (.agg #[.int .i64 0]) W := by rfl
set_option maxRecDepth 100000 in
theorem utree_box (n : Int) (h1 : -9223372036854775808 ≤ n) (h2 : n ≤ 9223372036854775807) (w : World) : Calls Tryz.prog 31 #[.iface 123 (.agg #[.int .i64 n])] w fun e w' => e = .returned (.agg #[.int .i64 6, .int .i64 n, .string ⟨#[]⟩, .slice none 0 0]) ∧ Only (fun _ => False) w w' := by
  have mInt := uas_miss 123 88 79 _ Tryz.underlying88 (by intro m h; cases h) (by decide) _ uzero_Int
  have mStr := uas_miss 123 118 79 _ Tryz.underlying118 (by intro m h; cases h) (by decide) _ uzero_Str
  have mBool := uas_miss 123 120 79 _ Tryz.underlying120 (by intro m h; cases h) (by decide) _ uzero_Bool
  have mList := uas_miss 123 85 79 _ Tryz.underlying85 (by intro m h; cases h) (by decide) _ uzero_List
  have mQuot := uas_miss 123 90 79 _ Tryz.underlying90 (by intro m h; cases h) (by decide) _ uzero_Quot
  have hBox := uas_hit 123 79 _ Tryz.underlying123 (by intro m h; cases h)
  have hw : IntKind.i64.wrap n = n := by rw [IntKind.wrap_i64]; omega
  clear h1 h2
  have O0 : Hid (Only (fun _ => False) w w) := Only.refl _ _
  go_enter Tryz.func31, Tryz.ntmps31
  go_wp2
  refine bodyPost_ret (uresults_v rfl _ _ w.heap.size (x := _) (y := _) (z := _) (r := _) ?_ ?_ ?_ ?_ rfl) rfl ⟨rfl, ?_⟩
  · simp [go_sem]
  · simp [go_sem]
  · simp [go_sem]
  · simp [go_sem]
  · first
      | exact O0.out.alloc _
      | exact ((O0.out.alloc _).alloc _)
      | exact ((((O0.out.alloc _).setCell _ _ (fun h => absurd h (by simp))).setCell _ _ (fun h => absurd h (by simp))).setCell _ _ (fun h => absurd h (by simp))).setCell _ _ (fun h => absurd h (by simp))
      | exact (((((O0.out.alloc _).alloc _).setCell _ _ (fun h => absurd h (by simp))).setCell _ _ (fun h => absurd h (by simp))).setCell _ _ (fun h => absurd h (by simp))).setCell _ _ (fun h => absurd h (by simp))
set_option maxRecDepth 100000 in
theorem utree_nil  (w : World) : Calls Tryz.prog 31 #[.nilIface] w fun e w' => e = .returned (.agg #[.int .i64 8, .int .i64 0, .string ⟨#[]⟩, .slice none 0 0]) ∧ Only (fun _ => False) w w' := by
  have mInt := uas_nil 88 79 _ Tryz.underlying88 (by intro m h; cases h) _ uzero_Int
  have mStr := uas_nil 118 79 _ Tryz.underlying118 (by intro m h; cases h) _ uzero_Str
  have mBool := uas_nil 120 79 _ Tryz.underlying120 (by intro m h; cases h) _ uzero_Bool
  have mList := uas_nil 85 79 _ Tryz.underlying85 (by intro m h; cases h) _ uzero_List
  have mQuot := uas_nil 90 79 _ Tryz.underlying90 (by intro m h; cases h) _ uzero_Quot
  have mBox := uas_nil 123 79 _ Tryz.underlying123 (by intro m h; cases h) _ uzero_Box
  have O0 : Hid (Only (fun _ => False) w w) := Only.refl _ _
  go_enter Tryz.func31, Tryz.ntmps31
  go_wp2
  refine bodyPost_ret (uresults_v rfl _ _ w.heap.size (x := _) (y := _) (z := _) (r := _) ?_ ?_ ?_ ?_ rfl) rfl ⟨rfl, ?_⟩
  · simp [go_sem]
  · simp [go_sem]
  · simp [go_sem]
  · simp [go_sem]
  · first
      | exact O0.out.alloc _
      | exact ((O0.out.alloc _).alloc _)
      | exact ((((O0.out.alloc _).setCell _ _ (fun h => absurd h (by simp))).setCell _ _ (fun h => absurd h (by simp))).setCell _ _ (fun h => absurd h (by simp))).setCell _ _ (fun h => absurd h (by simp))
      | exact (((((O0.out.alloc _).alloc _).setCell _ _ (fun h => absurd h (by simp))).setCell _ _ (fun h => absurd h (by simp))).setCell _ _ (fun h => absurd h (by simp))).setCell _ _ (fun h => absurd h (by simp))
set_option maxRecDepth 100000 in
theorem uitree_nil  (w : World) : Calls Tryz.prog 16 #[.nilIface] w fun e w' => e = .returned (.agg #[.int .i64 8, .int .i64 0, .string ⟨#[]⟩, .slice none 0 0]) ∧ Only (fun _ => False) w w' := by
  have mPush := uas_nil 81 36 _ Tryz.underlying81 (by intro m h; cases h) _ uzero_Push
  have mCall := uas_nil 48 36 _ Tryz.underlying48 (by intro m h; cases h) _ uzero_Call
  have O0 : Hid (Only (fun _ => False) w w) := Only.refl _ _
  go_enter Tryz.func16, Tryz.ntmps16
  go_wp2
  refine bodyPost_ret (uresults_v rfl _ _ w.heap.size (x := _) (y := _) (z := _) (r := _) ?_ ?_ ?_ ?_ rfl) rfl ⟨rfl, ?_⟩
  · simp [go_sem]
  · simp [go_sem]
  · simp [go_sem]
  · simp [go_sem]
  · first
      | exact O0.out.alloc _
      | exact ((O0.out.alloc _).alloc _)
      | exact ((((O0.out.alloc _).setCell _ _ (fun h => absurd h (by simp))).setCell _ _ (fun h => absurd h (by simp))).setCell _ _ (fun h => absurd h (by simp))).setCell _ _ (fun h => absurd h (by simp))
      | exact (((((O0.out.alloc _).alloc _).setCell _ _ (fun h => absurd h (by simp))).setCell _ _ (fun h => absurd h (by simp))).setCell _ _ (fun h => absurd h (by simp))).setCell _ _ (fun h => absurd h (by simp))
theorem utree_of (d : Nat) (H1 : TuS d 48 false) (H2 : TuS d 6 true) : TuE (d + 1) 31 false := by
  intro v t w S h hw
  obtain ⟨k, n, s, l⟩ := t
  obtain ⟨e, hw⟩ := hw
  cases e with
  | zero => exact hw.elim
  | succ e =>
  obtain ⟨hw1, hwb, hwn, hws, hw2⟩ := hw
  dsimp only at hw1 hwb hwn hws hw2
  rcases h with ⟨h1, h2, h3⟩ | ⟨h1, h2, h3⟩ | ⟨h1, h2, h3⟩ | ⟨h1, h2, h3⟩ | ⟨h1, h2, h3⟩ | ⟨h1, ao, cap, hv, hc, hl⟩
  · dsimp only at h1 h2 h3
    subst h1 h3
    have e2 : s = ⟨#[]⟩ := hws
    subst e2
    exact (utree_int n w).mono fun e w' g => ⟨_, g.1, nu_nil h2, g.2⟩
  · dsimp only at h1 h2 h3
    subst h1 h3
    have e2 : n = 0 := hwn
    subst e2
    exact (utree_str s w).mono fun e w' g => ⟨_, g.1, nu_nil h2, g.2⟩
  · dsimp only at h1 h2 h3
    subst h1 h3
    have e2 : s = ⟨#[]⟩ := hws
    have e3 : n = if n != 0 then 1 else 0 := hwn
    subst e2
    by_cases hn : n = 0
    · subst hn
      exact (utree_no w).mono fun e w' g => ⟨_, g.1, nu_nil h2, g.2⟩
    · have e1 : (n != 0) = true := by simp [hn]
      rw [e1] at e3
      rw [if_pos rfl] at e3
      subst e3
      exact (utree_yes w).mono fun e w' g => ⟨_, g.1, nu_nil h2, g.2⟩
  · dsimp only at h1 h2 h3
    subst h1 h3
    have e2 : s = ⟨#[]⟩ := hws
    subst e2
    exact (utree_box n hwb.1 hwb.2 w).mono fun e w' g => ⟨_, g.1, nu_nil h2, g.2⟩
  · dsimp only at h1 h2 h3
    subst h1 h3
    have e2 : s = ⟨#[]⟩ := hws
    have e3 : n = 0 := hwn
    subst e2 e3
    exact (utree_nil w).mono fun e w' g => ⟨_, g.1, nu_nil h2, g.2⟩
  · dsimp only at h1 hv hc hl
    rcases h1 with h1 | h1
    · subst h1
      rw [if_pos rfl] at hv
      subst hv
      have e2 : s = ⟨#[]⟩ := hws
      have e3 : n = 0 := hwn
      subst e2 e3
      exact (utree_list d l ao cap w S H1 ⟨ao, cap, rfl, hc, hl⟩ hw1 (fun x hx => ⟨e, hw2 x hx⟩)).mono fun e w' g => by
        obtain ⟨ao', cap', he, g⟩ := g
        exact ⟨_, he, g.out.1.tree rfl, g.out.2⟩
    · subst h1
      rw [if_neg (by omega)] at hv
      subst hv
      have e2 : s = ⟨#[]⟩ := hws
      have e3 : n = 0 := hwn
      subst e2 e3
      exact (utree_quot d l ao cap w S H2 ⟨ao, cap, rfl, hc, hl⟩ hw1 (fun x hx => ⟨e, hw2 x hx⟩)).mono fun e w' g => by
        obtain ⟨ao', cap', he, g⟩ := g
        exact ⟨_, he, g.out.1.tree rfl, g.out.2⟩
set_option maxRecDepth 100000 in
theorem uitree_push (u : Value) (hu : ∃ T y, u = .iface T y) (x0 x1 : Int) (x2 : ByteArray) (Q : Value → World → Prop) (w : World)
    (HC0 : ∀ w1, w.heap.size < w1.heap.size → Only (fun _ => False) w w1 → Calls Tryz.prog 31 #[u] w1 fun e w' => ∃ lv, e = .returned (.agg #[.int .i64 x0, .int .i64 x1, .string x2, lv]) ∧ (∃ ao n cap, lv = .slice ao n cap) ∧ Hid ((∀ w2, Only (fun b => b = w.heap.size) w' w2 → Q lv w2) ∧ Only (fun _ => False) w1 w')) :
    Calls Tryz.prog 16 #[.iface 81 (.agg #[u])] w fun e w' => ∃ lv, e = .returned (.agg #[.int .i64 x0, .int .i64 x1, .string x2, lv]) ∧ Hid (Q lv w' ∧ Only (fun _ => False) w w') := by
  have HC : Hid (∀ w1, w.heap.size < w1.heap.size → Only (fun _ => False) w w1 → Calls Tryz.prog 31 #[u] w1 fun e w' => ∃ lv, e = .returned (.agg #[.int .i64 x0, .int .i64 x1, .string x2, lv]) ∧ (∃ ao n cap, lv = .slice ao n cap) ∧ Hid ((∀ w2, Only (fun b => b = w.heap.size) w' w2 → Q lv w2) ∧ Only (fun _ => False) w1 w')) := HC0
  obtain ⟨T, y, rfl⟩ := hu
  have hPush := uas_hit 81 36 _ Tryz.underlying81 (by intro m h; cases h)
  have O0 : Hid (Only (fun _ => False) w w) := Only.refl _ _
  clear HC0
  go_enter Tryz.func16, Tryz.ntmps16
  go_wp2_with fail
  refine (show Calls Tryz.prog 31 _ _ _ from HC.out _ (by simp; omega) ((O0.out.alloc _).alloc _)).mono ?_
  rintro e w1 ⟨lv, rfl, ⟨ao, nn, cap, rfl⟩, g1⟩
  have R3 : w1.heap[w.heap.size]? = some (.cells #[.int .i64 0, .int .i64 0, .string ⟨#[]⟩, .slice none 0 0] 54) := (g1.out.2.block w.heap.size (by simp; omega) (fun h => h)).trans ((((Only.refl (fun _ => False) (w.alloc (.cells #[.int .i64 0, .int .i64 0, .string ⟨#[]⟩, .slice none 0 0] 54))).alloc _).block w.heap.size (by simp) (fun h => h)).trans (valloc_at _ _ _ rfl))
  have G1 : Hid ((∀ w2, Only (fun b => b = w.heap.size) w1 w2 → Q (.slice ao nn cap) w2) ∧ Only (fun _ => False) w w1) := ⟨g1.out.1, ((O0.out.alloc _).alloc _).trans g1.out.2 (fun _ _ g => g)⟩
  clear g1 HC O0
  obtain ⟨B, hBe⟩ : ∃ B, B = w.heap.size := ⟨_, rfl⟩
  have HE : Hid (B = w.heap.size) := hBe
  rw [← hBe] at R3 ⊢
  have c0 := blk_cells R3 0
  have c1 := blk_cells R3 1
  have c2 := blk_cells R3 2
  have c3 := blk_cells R3 3
  have z0 := blk_froz R3 0
  have z1 := blk_froz R3 1
  have z2 := blk_froz R3 2
  have z3 := blk_froz R3 3
  have HR3 : Hid (w1.heap[B]? = some (.cells #[.int .i64 0, .int .i64 0, .string ⟨#[]⟩, .slice none 0 0] 54)) := R3
  simp only [List.getElem?_toArray, List.getElem?_cons_zero, List.getElem?_cons_succ] at c0 c1 c2 c3
  clear R3 hBe
  go_wp2
  obtain ⟨p0, p1, p2, p3⟩ := set4 HR3.out rfl (.int .i64 x0) (.int .i64 x1) (.string x2) (.slice ao nn cap)
  have hBe : B = w.heap.size := HE.out
  have OB := @uonly4 w1 B (.int .i64 x0) (.int .i64 x1) (.string x2) (.slice ao nn cap)
  refine bodyPost_ret (uresults_v rfl _ _ B p0 p1 p2 p3 rfl) rfl ⟨_, rfl, G1.out.1 _ (by rw [← hBe]; exact OB), G1.out.2.trans OB (fun b h e => by omega)⟩
theorem uitree_of (d : Nat) (H : TuE d 31 false) : TuE (d + 1) 16 true := by
  intro v t w S h hw
  rcases h with ⟨h1, h2, h3⟩ | ⟨h1, h2, h3⟩ | ⟨h1, h8, u, h3, h4⟩
  · obtain ⟨k, n, s, l⟩ := t
    obtain ⟨e, hw⟩ := hw
    cases e with
    | zero => exact hw.elim
    | succ e =>
    obtain ⟨hw1, hwb, hwn, hws, hw2⟩ := hw
    dsimp only at h1 h2 h3 hwn
    subst h1 h3
    have e3 : n = 0 := hwn
    subst e3
    exact (utree_call s w).mono fun e w' g => ⟨_, g.1, nu_nil h2, g.2⟩
  · obtain ⟨k, n, s, l⟩ := t
    obtain ⟨e, hw⟩ := hw
    cases e with
    | zero => exact hw.elim
    | succ e =>
    obtain ⟨hw1, hwb, hwn, hws, hw2⟩ := hw
    dsimp only at h1 h2 h3 hwn hws
    subst h1 h3
    have e2 : s = ⟨#[]⟩ := hws
    have e3 : n = 0 := hwn
    subst e2 e3
    exact (uitree_nil w).mono fun e w' g => ⟨_, g.1, nu_nil h2, g.2⟩
  · subst h3
    refine (uitree_push u (h4.iface h8) t.k t.n t.s (fun lv w' => NuAt w' w.heap.size (d + 1) t lv) w fun w1 hlt o1 => ?_).mono fun e w' g => g
    have h5 : TiAt w1 S d false t u := h4.step (fun _ g => g) (fun a u _ hc => o1.cell hc (fun g => g)) (Nat.le_refl _)
    refine (H u t w1 S h5 hw).mono fun e w' g => ?_
    obtain ⟨lv, he, g⟩ := g
    obtain ⟨ao, cap, hf⟩ := g.out.1.form
    exact ⟨lv, he, ⟨ao, _, cap, hf⟩, fun w2 o2 => ((g.out.1.only o2 (fun b hb e => by omega)).lower (by omega)).deep (by omega), g.out.2⟩
end Go.Proofs.YtmpfbjmaiddigaaGreatDoor
