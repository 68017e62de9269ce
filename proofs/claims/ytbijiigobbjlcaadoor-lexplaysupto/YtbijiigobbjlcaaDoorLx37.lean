/- The document's Number and Name. -/
import Derived.Test.YtbijiigobbjlcaaDoorLx36
namespace Go.Proofs.YtbijiigobbjlcaaDoor
open Go.RowKit Go.Lib
set_option linter.unusedSimpArgs false
set_option linter.unusedVariables false
theorem rnum_le (nt : Nat) : ∀ (l : List Nat) (n : Nat), n ≤ 1152921504606846977 → (rnum nt l n).1 ≤ 1152921504606846977
  | [], n, h => h
  | c :: l, n, h => by
    rw [rnum]
    split
    · exact Nat.zero_le _
    · exact rnum_le nt l _ (by omega)
theorem rnumL_le (l : List Nat) : (rnumL l).1 ≤ 1152921504606846977 := by
  unfold rnumL
  cases rrest l with
  | nil => exact Nat.zero_le _
  | cons c r =>
    rw [rnumM]
    split
    · exact Nat.zero_le _
    · exact rnum_le _ _ _ (Nat.zero_le _)
set_option maxRecDepth 100000 in
set_option maxHeartbeats 1000000 in
theorem rNumber_any (s : ByteArray) (hs : s.size ≤ 4000000) (w : World) :
    Calls Tryd.prog 13 #[.string s] w fun e w' => e = .returned (.tuple #[.int .i64 (numR s).1, .int .i64 (numR s).2]) ∧ Only (fun _ => False) w w' := by
  have HC : Hid (Calls Tryd.prog 25 #[.string s] w fun e w' => ∃ v, e = .returned v ∧ Hid (ChrAt w' w.heap.size v (chrL s) ∧ Below w.heap.size w w')) := chars_any s hs w
  have HN : Hid (∀ v w1, RdC w1 v (chrL s) → Calls Tryd.prog 27 #[v] w1 fun e w' => e = .returned (rnV (rnumL (rns s))) ∧ Only (fun _ => False) w1 w') := fun v w1 h => by
    have := rnumber_any (chrL s) (by have := chrL_len s; omega) v w1 h
    rwa [chr_runes] at this
  have hle := rnumL_le (rns s)
  have hsame := (num_same s).1
  unfold rNumR at hsame
  rw [← hsame]
  obtain ⟨x, hx⟩ : ∃ x, x = rnumL (rns s) := ⟨_, rfl⟩
  rw [← hx] at HN hle ⊢
  clear hx hsame
  obtain ⟨n, mn, ok⟩ := x
  dsimp only at hle ⊢
  simp only [rnV] at HN
  obtain ⟨Z, hZ⟩ : ∃ Z : Int × Int, Z = if ok = false then (0, 9) else if mn = true ∧ n ≤ 1152921504606846976 then (-(n : Int), 0) else if 1152921504606846975 < n then (0, 11) else ((n : Int), 0) := ⟨_, rfl⟩
  have HZ : Hid (Z = if ok = false then (0, 9) else if mn = true ∧ n ≤ 1152921504606846976 then (-(n : Int), 0) else if 1152921504606846975 < n then (0, 11) else ((n : Int), 0)) := hZ
  rw [← hZ]
  clear hZ
  go_enter Tryd.func13, Tryd.ntmps13
  go_wp2_with fail
  refine (show Calls Tryd.prog 25 _ _ _ from HC.out).mono ?_
  rintro e w1 ⟨v, rfl, g⟩
  have O1 : Hid (Only (fun _ => False) w w1) := below_only g.out.2
  have T1 : Hid (RdC w1 v (chrL s)) := rdc_chr g.out.1
  clear HC g
  go_wp2_with fail
  refine (show Calls Tryd.prog 27 _ _ _ from HN.out _ _ T1.out).mono ?_
  rintro e2 w2 ⟨rfl, o2⟩
  have O2 : Hid (Only (fun _ => False) w w2) := O1.out.trans o2 (fun _ _ x => x)
  clear HN T1 O1 o2
  cases ok with
  | false =>
    have HE : Hid (Z = (0, 9)) := by
      show Z = _
      rw [HZ.out, if_pos rfl]
    clear HZ
    go_wp2
    go_ret2
    exact ⟨by rw [show Z = _ from HE.out]; rfl, O2.out⟩
  | true =>
    cases mn with
    | true =>
      by_cases h1 : n ≤ 1152921504606846976
      · have HE : Hid (Z = (-(n : Int), 0)) := by
          show Z = _
          rw [HZ.out, if_neg (by simp), if_pos ⟨rfl, h1⟩]
        have i1 : (n : Int) ≤ 1152921504606846976 := by omega
        have r1 : IntKind.i64.wrap (n : Int) = (n : Int) := by rw [IntKind.wrap_i64]; omega
        have r2 : IntKind.i64.wrap (-(n : Int)) = -(n : Int) := by rw [IntKind.wrap_i64]; omega
        clear HZ
        go_wp2
        go_ret2
        exact ⟨by rw [show Z = _ from HE.out]; rfl, O2.out⟩
      · have HE : Hid (Z = (0, 11)) := by
          show Z = _
          rw [HZ.out, if_neg (by simp), if_neg (fun g => h1 g.2), if_pos (by omega)]
        have i1 : decide ((n : Int) ≤ 1152921504606846976) = false := decide_eq_false (by omega)
        have i2 : (1152921504606846975 : Int) < (n : Int) := by omega
        clear HZ
        go_wp2
        go_ret2
        exact ⟨by rw [show Z = _ from HE.out]; rfl, O2.out⟩
    | false =>
      by_cases h1 : 1152921504606846975 < n
      · have HE : Hid (Z = (0, 11)) := by
          show Z = _
          rw [HZ.out, if_neg (by simp), if_neg (fun g => by simp at g), if_pos h1]
        have i2 : (1152921504606846975 : Int) < (n : Int) := by omega
        clear HZ
        go_wp2
        go_ret2
        exact ⟨by rw [show Z = _ from HE.out]; rfl, O2.out⟩
      · have HE : Hid (Z = ((n : Int), 0)) := by
          show Z = _
          rw [HZ.out, if_neg (by simp), if_neg (fun g => by simp at g), if_neg h1]
        have i2 : decide ((1152921504606846975 : Int) < (n : Int)) = false := decide_eq_false (by omega)
        have r1 : IntKind.i64.wrap (n : Int) = (n : Int) := by rw [IntKind.wrap_i64]; omega
        clear HZ
        go_wp2
        go_ret2
        exact ⟨by rw [show Z = _ from HE.out]; rfl, O2.out⟩
/-- What a name is, by its characters. -/
theorem nmL_all : ∀ (l : List Nat) (k : Nat), k + l.length ≤ 32 → nmL l k = (decide (0 < k + l.length) && l.all ofN)
  | [], k, h => by simp [nmL]
  | c :: l, k, h => by
    rw [List.length_cons] at h
    rw [nmL, List.all_cons, List.length_cons]
    by_cases hc : ofN c = false
    · rw [if_pos (.inr hc), hc]; simp
    · rw [if_neg (fun g => g.elim (by omega) hc), nmL_all l (k + 1) (by omega)]
      simp only [Bool.not_eq_false] at hc
      rw [hc, Bool.true_and, decide_eq_true (by omega), decide_eq_true (by omega)]
theorem nmL_long : ∀ (l : List Nat) (k : Nat), k ≤ 32 → 32 < k + l.length → nmL l k = false
  | [], k, h0, h => by simp at h; omega
  | c :: l, k, h0, h => by
    rw [nmL]
    rw [List.length_cons] at h
    split
    · rfl
    · rename_i g
      exact nmL_long l (k + 1) (by omega) (by omega)
theorem qu_tx : quB = tx [34] := rfl
theorem name_eq (s : ByteArray) : nameB s = (!(s.toList == [33]) && !decide ((rns s).head? = some 34) && decide (0 < (rns s).length) && decide ((rns s).length ≤ 32) && (rns s).all ofN && !(rnumL (rns s)).2.2) := by
  unfold nameB nmdB
  have h1 := (num_same s).2
  have h2 := pre_rune s (c := 34) (.inl (by decide)) (by decide)
  rw [← qu_tx] at h2
  rw [h2]
  have h3 : decide ((numR s).2 = 9) = !(rnumL (rns s)).2.2 := by
    rw [Bool.eq_iff_iff, decide_eq_true_iff, h1]
    simp
  rw [h3]
  cases s.toList == [33] with
  | true => simp
  | false =>
    by_cases h34 : (rns s).head? = some 34
    · simp [h34]
    · simp only [Bool.false_eq_true, if_false, decide_eq_false h34, Bool.not_false, Bool.true_and]
      by_cases hl : (rns s).length ≤ 32
      · rw [nmL_all _ 0 (by omega), decide_eq_true hl, Nat.zero_add, Bool.and_true, Bool.and_comm]
      · rw [nmL_long _ 0 (by omega) (by omega), decide_eq_false hl]
        simp
end Go.Proofs.YtbijiigobbjlcaaDoor
