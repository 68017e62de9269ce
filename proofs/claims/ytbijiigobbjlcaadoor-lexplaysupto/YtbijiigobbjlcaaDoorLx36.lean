/- Numbers and names: what the program and the document say is the same. -/
import Derived.Test.YtbijiigobbjlcaaDoorLx35
namespace Go.Proofs.YtbijiigobbjlcaaDoor
open Go.RowKit Go.Lib
set_option linter.unusedSimpArgs false
set_option linter.unusedVariables false
theorem chr_runes (s : ByteArray) : (chrL s).map (·.r) = rns s := by
  unfold chrL rns
  rw [List.map_map]
  apply List.map_congr_left
  intro x _
  simp only [Function.comp, chr1]
  split <;> rfl
/-- The characters behind a place, as a text of its own. -/
theorem crs_tail (s : ByteArray) (n : Nat) (hn : n ≤ s.size) : ∀ (b pos : Nat), (crs (s.extract n s.size) b pos).map (·.2) = (crs s b (n + pos)).map (·.2)
  | 0, pos => rfl
  | b + 1, pos => by
    have hz : (s.extract n s.size).size = s.size - n := by rw [ByteArray.size_extract]; omega
    by_cases hp : n + pos < s.size
    · rw [show crs s (b + 1) (n + pos) = (n + pos, (Utf8.decode s (n + pos)).1) :: crs s b (n + pos + (Utf8.decode s (n + pos)).2) by simp [crs, hp]]
      rw [show crs (s.extract n s.size) (b + 1) pos = (pos, (Utf8.decode (s.extract n s.size) pos).1) :: crs (s.extract n s.size) b (pos + (Utf8.decode (s.extract n s.size) pos).2) by simp [crs, hz]; omega]
      rw [tail_decode, List.map_cons, List.map_cons, crs_tail s n hn b, Nat.add_assoc]
    · rw [crs_end (by omega), crs_end (by omega)]
theorem crs_fuel (s : ByteArray) : ∀ (b b' pos : Nat), s.size ≤ pos + b → s.size ≤ pos + b' → crs s b pos = crs s b' pos
  | b, b', pos, h, h' => by
    induction b generalizing b' pos with
    | zero => rw [crs_end (by omega), crs_end (by omega)]
    | succ b ih =>
      by_cases hp : pos < s.size
      · have := wid_pos s pos hp
        obtain ⟨b2, rfl⟩ : ∃ k, b' = k + 1 := ⟨b' - 1, by omega⟩
        rw [show crs s (b + 1) pos = (pos, (Utf8.decode s pos).1) :: crs s b (pos + (Utf8.decode s pos).2) by simp [crs, hp], show crs s (b2 + 1) pos = (pos, (Utf8.decode s pos).1) :: crs s b2 (pos + (Utf8.decode s pos).2) by simp [crs, hp], ih b2 _ (by omega) (by omega)]
      · rw [crs_end hp, crs_end hp]
theorem rns_nil {s : ByteArray} (h : s.size = 0) : rns s = [] := by
  unfold rns chs
  rw [crs_end (by omega)]
  rfl
theorem rns_cons {s : ByteArray} (h : 0 < s.size) : rns s = (Utf8.decode s 0).1 :: rns (s.extract (Utf8.decode s 0).2 s.size) := by
  have hw := wid_pos s 0 h
  have hwd := decode_wd s 0 h
  have hz : (s.extract (Utf8.decode s 0).2 s.size).size = s.size - (Utf8.decode s 0).2 := by rw [ByteArray.size_extract]; omega
  obtain ⟨b, hb, e⟩ := crs_go (s := s) (b := s.size) (pos := 0) h (by omega)
  unfold rns chs
  rw [e, List.map_cons, crs_tail s _ (by omega), Nat.add_zero, hz, Nat.zero_add]
  congr 2
  exact crs_fuel s _ _ _ (by omega) (by omega)
/-- A text begins with a character. -/
theorem pre_rune (s : ByteArray) {c : Nat} (hc : Vr c) (hb : c ≠ 65533) : preB s (tx [c]) = decide ((rns s).head? = some c) := by
  have hw := wr_pos c
  have hts : (tx [c]).size = wr c := by rw [tx_size, wl_cons, wl_nil, Nat.add_zero]
  have htd : (tx [c]).data.toList = encodeRune (c : Int) := by rw [tx_data]; simp [enL]
  rw [Bool.eq_iff_iff, decide_eq_true_iff]
  constructor
  · intro h
    have ht := pre_take h
    rw [hts, htd] at ht
    have hs : 0 < s.size := by have := preB_le h; omega
    have e3 : s.data.toList = encodeRune (c : Int) ++ s.data.toList.drop (wr c) := by
      rw [← ht]
      exact (List.take_append_drop _ _).symm
    have hd := decodeL_drop s 0
    rw [List.drop_zero, e3, decodeL_enc hc] at hd
    rw [rns_cons hs, ← hd]
    rfl
  · intro h
    by_cases hs : 0 < s.size
    · rw [rns_cons hs] at h
      simp only [List.head?_cons, Option.some.injEq] at h
      have hd := decodeL_drop s 0
      rw [List.drop_zero] at hd
      have hne : s.data.toList ≠ [] := by
        intro g
        have := congrArg List.length g
        rw [Array.length_toList] at this
        have : s.size = 0 := this
        omega
      have he := encode_decode s.data.toList hne (by rw [hd, h]; intro g; exact hb g.1)
      rw [hd, h] at he
      have hle := decodeL_le s.data.toList hne
      rw [hd] at hle
      have hl : wr c = (Utf8.decode s 0).2 := by
        unfold wr
        rw [he, List.length_take]
        omega
      unfold preB
      rw [hts]
      have hsz : s.data.toList.length = s.size := Array.length_toList
      rw [decide_eq_true (by omega : wr c ≤ s.size), Bool.true_and, beq_iff_eq, ByteArray.toList_eq, ByteArray.toList_eq, htd, he, ← hl, ByteArray.data_extract, Array.toList_extract]
      simp
    · rw [rns_nil (by omega)] at h
      simp at h
theorem hy_tx : hyB = tx [45] := rfl
theorem mi_tx : miB = tx [8722] := rfl
theorem sgn_runes (s : ByteArray) : rns (sgn s).1 = rrest (rns s) ∧ (sgn s).2 = rminus (rns s) := by
  unfold sgn rrest
  have h1 := pre_rune s (c := 45) (.inl (by decide)) (by decide)
  have h2 := pre_rune s (c := 8722) (.inl (by decide)) (by decide)
  rw [← hy_tx] at h1
  rw [← mi_tx] at h2
  rw [h1, h2]
  by_cases g1 : (rns s).head? = some 45
  · have hm : rminus (rns s) = true := by unfold rminus; exact decide_eq_true (.inl g1)
    rw [if_pos (by simpa using g1), hm, if_pos rfl]
    refine ⟨?_, rfl⟩
    have hs : 0 < s.size := by
      rcases Nat.eq_zero_or_pos s.size with h | h
      · rw [rns_nil h] at g1; simp at g1
      · exact h
    have e := rns_cons hs
    rw [e] at g1
    simp only [List.head?_cons, Option.some.injEq] at g1
    have hd : (Utf8.decode s 0).2 = 1 := by
      by_cases ha : (s[0]'hs).toNat < 128
      · rw [decode_ascii s 0 hs ha]
      · have := (decode_high s 0 hs (by omega)).1
        omega
    rw [e, hd]
    rfl
  · rw [if_neg (by simpa using g1)]
    by_cases g2 : (rns s).head? = some 8722
    · have hm : rminus (rns s) = true := by unfold rminus; exact decide_eq_true (.inr g2)
      rw [if_pos (by simpa using g2), hm, if_pos rfl]
      refine ⟨?_, rfl⟩
      have hs : 0 < s.size := by
        rcases Nat.eq_zero_or_pos s.size with h | h
        · rw [rns_nil h] at g2; simp at g2
        · exact h
      have e := rns_cons hs
      have hp : preB s (tx [8722]) = true := by rw [← mi_tx, h2]; simpa using g2
      have ht := pre_take hp
      have hd : (Utf8.decode s 0).2 = 3 := by
        have e3 : s.data.toList = encodeRune ((8722 : Nat) : Int) ++ s.data.toList.drop 3 := by
          have : encodeRune ((8722 : Nat) : Int) = (tx [8722]).data.toList := rfl
          rw [this, ← ht]
          exact (List.take_append_drop _ _).symm
        have hd := decodeL_drop s 0
        rw [List.drop_zero, e3, decodeL_enc (.inl (by decide))] at hd
        rw [← hd]
        rfl
      rw [e, hd]
      rfl
    · have hm : rminus (rns s) = false := by unfold rminus; exact decide_eq_false (fun g => g.elim g1 g2)
      rw [if_neg (by simpa using g2), hm, if_neg (by simp)]
      exact ⟨rfl, rfl⟩
theorem scr_rs (c : Nat) : scr (c : Int) = if rs c = 0 then none else some (rs c : Int) := by
  unfold scr rs inS
  simp only [decide_eq_true_eq]
  by_cases h1 : 48 ≤ c ∧ c ≤ 57
  · rw [if_pos (by omega), if_pos h1]; rfl
  · rw [if_neg (by omega), if_neg h1]
    by_cases h2 : 1632 ≤ c ∧ c ≤ 1641
    · rw [if_pos (by omega), if_pos h2]; rfl
    · rw [if_neg (by omega), if_neg h2]
      by_cases h3 : 65296 ≤ c ∧ c ≤ 65305
      · rw [if_pos (by omega), if_pos h3]; rfl
      · rw [if_neg (by omega), if_neg h3]; rfl
theorem ins_rs (c d : Nat) (h : rs d ≠ 0) : inS (c : Int) (rs d : Int) = decide (rs c = rs d) := by
  unfold inS
  rw [Bool.eq_iff_iff, decide_eq_true_iff, decide_eq_true_iff]
  unfold rs at h ⊢
  by_cases h1 : 48 ≤ d ∧ d ≤ 57
  · simp only [if_pos h1] at h ⊢
    constructor
    · intro g; rw [if_pos (by omega)]
    · intro g
      split at g
      · omega
      · split at g
        · omega
        · split at g <;> omega
  · simp only [if_neg h1] at h ⊢
    by_cases h2 : 1632 ≤ d ∧ d ≤ 1641
    · simp only [if_pos h2] at h ⊢
      constructor
      · intro g; rw [if_neg (by omega), if_pos (by omega)]
      · intro g
        split at g
        · omega
        · split at g
          · omega
          · split at g <;> omega
    · simp only [if_neg h2] at h ⊢
      by_cases h3 : 65296 ≤ d ∧ d ≤ 65305
      · simp only [if_pos h3] at h ⊢
        constructor
        · intro g; rw [if_neg (by omega), if_neg (by omega), if_pos (by omega)]
        · intro g
          split at g
          · omega
          · split at g
            · omega
            · split at g <;> omega
      · simp only [if_neg h3] at h
        exact absurd rfl h
theorem nat_rnum (d : Nat) (hd : rs d ≠ 0) : ∀ (l : List Nat) (np nr : Nat), nr = min np 1152921504606846977 → (natL l (rs d : Int) true np).2 = (rnum (rs d) l nr).2 ∧ ((rnum (rs d) l nr).2 = true → (rnum (rs d) l nr).1 = min (natL l (rs d : Int) true np).1 1152921504606846977)
  | [], np, nr, h => ⟨rfl, fun _ => h⟩
  | c :: l, np, nr, h => by
    rw [natL, rnum, ins_rs c d hd]
    by_cases hc : rs c = rs d
    · rw [if_pos (by simpa using hc), if_neg (by simpa using hc)]
      have hdg := rs_digit (c := c) (by rw [hc]; exact hd)
      refine nat_rnum d hd l _ _ ?_
      unfold dig
      rw [hc] at hdg ⊢
      split
      · omega
      · omega
    · rw [if_neg (by simpa using hc), if_pos hc]
      exact ⟨rfl, fun g => by simp at g⟩
/-- What the document's Number answers. -/
def rNumR (s : ByteArray) : Int × Int :=
  if (rnumL (rns s)).2.2 = false then (0, 9)
  else if (rnumL (rns s)).2.1 = true ∧ (rnumL (rns s)).1 ≤ 1152921504606846976 then (-((rnumL (rns s)).1 : Int), 0)
  else if 1152921504606846975 < (rnumL (rns s)).1 then (0, 11)
  else ((rnumL (rns s)).1, 0)
theorem num_same (s : ByteArray) : rNumR s = numR s ∧ ((numR s).2 = 9 ↔ (rnumL (rns s)).2.2 = false) := by
  obtain ⟨h1, h2⟩ := sgn_runes s
  unfold rNumR numR rnumL
  rw [h1, h2]
  have key : ∀ (l : List Nat) (mn : Bool), (rnumM mn l).2.1 = mn ∧ (natL l 0 false 0).2 = (rnumM mn l).2.2 ∧ ((rnumM mn l).2.2 = true → (rnumM mn l).1 = min (natL l 0 false 0).1 1152921504606846977) := by
    intro l mn
    cases l with
    | nil => exact ⟨rfl, rfl, fun g => by simp [rnumM] at g⟩
    | cons c l =>
      rw [rnumM, natL, scr_rs]
      by_cases hc : rs c = 0
      · rw [if_pos hc, if_pos hc]
        exact ⟨rfl, rfl, fun g => by simp at g⟩
      · rw [if_neg hc, if_neg hc]
        have hdg := rs_digit hc
        rw [rnum, if_neg (by simp)]
        have := nat_rnum c hc l (dig 0 c (rs c : Int)) (min (10 * 0 + (c - rs c)) 1152921504606846977) (by unfold dig; rw [if_pos (by omega)]; omega)
        exact ⟨rfl, this.1, this.2⟩
  obtain ⟨k1, k2, k3⟩ := key (rrest (rns s)) (rminus (rns s))
  obtain ⟨p, hp⟩ : ∃ p, p = natL (rrest (rns s)) 0 false 0 := ⟨_, rfl⟩
  obtain ⟨r, hr⟩ : ∃ r, r = rnumM (rminus (rns s)) (rrest (rns s)) := ⟨_, rfl⟩
  rw [← hp, ← hr] at k2 k3
  rw [← hr] at k1
  rw [← hp, ← hr]
  obtain ⟨pn, po⟩ := p
  obtain ⟨rn, rm, ro⟩ := r
  clear hp hr h1 h2 key
  obtain ⟨mn, hmn⟩ : ∃ mn, mn = rminus (rns s) := ⟨_, rfl⟩
  rw [← hmn] at k1 ⊢
  clear hmn
  dsimp only at k1 k2 k3 ⊢
  subst k1
  subst k2
  cases po with
  | false => exact ⟨rfl, by simp⟩
  | true =>
    have k4 := k3 rfl
    clear k3
    have f1 : ¬ (true = false) := by simp
    rw [if_neg f1, if_neg f1]
    cases rm with
    | true =>
      by_cases hle : pn ≤ 1152921504606846976
      · have : rn = pn := by omega
        subst this
        rw [if_pos ⟨rfl, hle⟩, if_pos ⟨rfl, hle⟩]
        simp
      · have h3 : ¬ (true = true ∧ rn ≤ 1152921504606846976) := fun g => by have := g.2; omega
        have h4 : ¬ (true = true ∧ pn ≤ 1152921504606846976) := fun g => hle g.2
        have h5 : 1152921504606846975 < rn := by omega
        have h6 : ¬ (true = false ∧ pn ≤ 1152921504606846975) := fun g => by simp at g
        rw [if_neg h3, if_neg h4, if_pos h5, if_neg h6]
        simp
    | false =>
      have h3 : ∀ x : Nat, ¬ (false = true ∧ x ≤ 1152921504606846976) := fun x g => by simp at g
      rw [if_neg (h3 rn), if_neg (h3 pn)]
      by_cases hle : pn ≤ 1152921504606846975
      · have : rn = pn := by omega
        subst this
        rw [if_neg (by omega), if_pos ⟨rfl, hle⟩]
        simp
      · have h5 : 1152921504606846975 < rn := by omega
        have h6 : ¬ (false = false ∧ pn ≤ 1152921504606846975) := fun g => hle g.2
        rw [if_pos h5, if_neg h6]
        simp
end Go.Proofs.YtbijiigobbjlcaaDoor
