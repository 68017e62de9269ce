/- Brackets within one another. readAll: the walk. -/
import Derived.Test.YtokponkokpdhiaaDoorGae
import Derived.Test.YtokponkokpdhiaaDoorGah
import Derived.Test.YtokponkokpdhiaaDoorGag
import Derived.Test.YtokponkokpdhiaaDoorGad
namespace Go.Proofs.YtokponkokpdhiaaDoor
open Go.RowKit
set_option linter.unusedSimpArgs false
set_option linter.unusedVariables false
theorem quo_open (n : Int) (f a : Nat) (r : List Tok) (o z : Int) (h : ¬ (o = 32 ∨ z = 1024)) : prs n (f + 1) 0 (⟨1, tx [91], 0, a⟩ :: r) o z =
    match prs n f 3 r (o + 1) (z + 1) with
    | .error e => .error e
    | .ok (l, r', z') => .ok ([⟨5, 0, ⟨#[]⟩, l⟩], r', z') := by
  have e : (tx [91]).toList = [91] := by kernel_rfl
  simp only [prs]
  rw [if_neg (by omega), if_neg (by omega), if_neg (by rw [e]; simp), if_neg (by rw [e]; simp), if_pos e, if_neg h]
  try rfl
theorem quo_full (n : Int) (f a : Nat) (r : List Tok) (z : Int) : prs n (f + 1) 0 (⟨1, tx [91], 0, a⟩ :: r) 32 z = .error ((a : Int), 11) := by
  have e : (tx [91]).toList = [91] := by kernel_rfl
  simp only [prs]
  rw [if_neg (by omega), if_neg (by omega), if_neg (by rw [e]; simp), if_neg (by rw [e]; simp), if_pos e, if_pos (by simp)]
theorem quo_item (n : Int) (f a : Nat) (r : List Tok) (o z : Int) : prs n (f + 1) 1 (⟨1, tx [91], 0, a⟩ :: r) o z = prs n f 0 (⟨1, tx [91], 0, a⟩ :: r) o z := by
  have h : nmB ⟨1, tx [91], 0, (a : Int)⟩ = false := by kernel_rfl
  simp only [prs]
  rw [if_neg (by rw [h]; simp)]
theorem quo_in (n : Int) (f a : Nat) (r : List Tok) (o z : Int) : prs n (f + 1) 3 (⟨1, tx [91], 0, a⟩ :: r) o z =
    match prs n f 1 (⟨1, tx [91], 0, a⟩ :: r) o z with
    | .error e => .error e
    | .ok (l1, r1, z1) => pre l1 (prs n f 3 r1 o z1) := by
  have h : isB ⟨1, tx [91], 0, (a : Int)⟩ (shB 1) = false := by kernel_rfl
  rw [prs_up, if_neg (by rw [h]; simp)]
  try rfl
theorem quo_shut (n : Int) (f a : Nat) (r : List Tok) (o z : Int) : prs n (f + 1) 3 (⟨1, tx [93], 0, a⟩ :: r) o z = .ok ([], r, z) := by
  have h : isB ⟨1, tx [93], 0, (a : Int)⟩ (shB 1) = true := by kernel_rfl
  rw [prs_up, if_pos h]
theorem quo_ok (n : Int) : ∀ (k a b : Nat) (rest : List Tok) (o z : Int) (f : Nat), o + k + 1 ≤ 32 → z + k + 1 ≤ 1024 → 3 * k + 3 ≤ f → ∃ t, prs n f 0 (wtk a (List.replicate (k + 1) [91]) ++ (wtk b (List.replicate (k + 1) [93]) ++ rest)) o z = .ok ([t], rest, z + k + 1)
  | 0, a, b, rest, o, z, f, ho, hz, hf => by
    obtain ⟨g, rfl⟩ : ∃ g, f = g + 2 := ⟨f - 2, by omega⟩
    have e1 : wtk a (List.replicate (0 + 1) [91]) = [⟨1, tx [91], 0, a⟩] := rfl
    have e2 : wtk b (List.replicate (0 + 1) [93]) = [⟨1, tx [93], 0, b⟩] := rfl
    rw [e1, e2]
    simp only [List.cons_append, List.nil_append]
    rw [quo_open n (g + 1) a _ o z (by omega), quo_shut]
    exact ⟨⟨5, 0, ⟨#[]⟩, []⟩, by simp⟩
  | k + 1, a, b, rest, o, z, f, ho, hz, hf => by
    obtain ⟨g, rfl⟩ : ∃ g, f = g + 3 := ⟨f - 3, by omega⟩
    have e1 : wtk a (List.replicate (k + 1 + 1) [91]) = ⟨1, tx [91], 0, a⟩ :: wtk (a + 2) (List.replicate (k + 1) [91]) := rfl
    have e0 : wtk (a + 2) (List.replicate (k + 1) [91]) = ⟨1, tx [91], 0, ((a + 2 : Nat) : Int)⟩ :: wtk (a + 2 + 2) (List.replicate k [91]) := rfl
    obtain ⟨c, e2⟩ : ∃ c : Nat, wtk b (List.replicate (k + 1 + 1) [93]) = wtk b (List.replicate (k + 1) [93]) ++ [⟨1, tx [93], 0, (c : Int)⟩] := ⟨_, by rw [List.replicate_succ' (n := k + 1), wtk_app]; rfl⟩
    rw [e1, e2]
    simp only [List.cons_append, List.append_assoc, List.nil_append]
    rw [quo_open n (g + 2) a _ o z (by omega)]
    obtain ⟨t, ht⟩ := quo_ok n k (a + 2) b (⟨1, tx [93], 0, (c : Int)⟩ :: rest) (o + 1) (z + 1) g (by omega) (by omega) (by omega)
    have hp : prs n (g + 2) 3 (wtk (a + 2) (List.replicate (k + 1) [91]) ++ (wtk b (List.replicate (k + 1) [93]) ++ ⟨1, tx [93], 0, (c : Int)⟩ :: rest)) (o + 1) (z + 1) = .ok ([t], rest, z + 1 + k + 1) := by
      rw [e0] at ht ⊢
      simp only [List.cons_append] at ht ⊢
      rw [quo_in, quo_item, ht]
      dsimp only
      rw [quo_shut]
      rfl
    rw [hp]
    exact ⟨_, by
      dsimp only
      rw [show z + 1 + (k : Int) + 1 = z + ((k + 1 : Nat) : Int) + 1 by omega]⟩
theorem quo_bad (n : Int) : ∀ (k a : Nat) (rest : List Tok) (o : Nat) (z : Int) (f : Nat), o ≤ 32 → 32 < o + k → z + 33 ≤ 1024 + o → 3 * k ≤ f → prs n f 0 (wtk a (List.replicate k [91]) ++ rest) o z = .error (((a + 2 * (32 - o) : Nat) : Int), 11)
  | 0, a, rest, o, z, f, ho, hk, hz, hf => by omega
  | k + 1, a, rest, o, z, f, ho, hk, hz, hf => by
    obtain ⟨g, rfl⟩ : ∃ g, f = g + 3 := ⟨f - 3, by omega⟩
    have e1 : wtk a (List.replicate (k + 1) [91]) = ⟨1, tx [91], 0, a⟩ :: wtk (a + 2) (List.replicate k [91]) := rfl
    rw [e1]
    simp only [List.cons_append]
    by_cases h32 : o = 32
    · subst h32
      rw [show ((32 : Nat) : Int) = 32 from rfl, quo_full]
      rfl
    · rw [quo_open n (g + 2) a _ o z (by omega)]
      have ih := quo_bad n k (a + 2) rest (o + 1) (z + 1) g (by omega) (by omega) (by omega) (by omega)
      obtain ⟨j, rfl⟩ : ∃ j, k = j + 1 := ⟨k - 1, by omega⟩
      have e0 : wtk (a + 2) (List.replicate (j + 1) [91]) = ⟨1, tx [91], 0, ((a + 2 : Nat) : Int)⟩ :: wtk (a + 2 + 2) (List.replicate j [91]) := rfl
      rw [e0] at ih ⊢
      simp only [List.cons_append] at ih ⊢
      rw [show ((o + 1 : Nat) : Int) = (o : Int) + 1 by omega] at ih
      rw [quo_in, quo_item, ih]
      dsimp only
      rw [show a + 2 + 2 * (32 - (o + 1)) = a + 2 * (32 - o) by omega]
theorem lis_open (n : Int) (f a : Nat) (r : List Tok) (o z : Int) (h : ¬ (o = 32 ∨ z = 1024)) : prs n (f + 1) 0 (⟨1, tx [123], 0, a⟩ :: r) o z =
    match prs n f 2 r (o + 1) (z + 1) with
    | .error e => .error e
    | .ok (l, r', z') => .ok ([⟨4, 0, ⟨#[]⟩, l⟩], r', z') := by
  have e : (tx [123]).toList = [123] := by kernel_rfl
  simp only [prs]
  rw [if_neg (by omega), if_neg (by omega), if_neg (by rw [e]; simp), if_neg (by rw [e]; simp), if_neg (by rw [e]; simp), if_pos e, if_neg h]
  try rfl
theorem lis_full (n : Int) (f a : Nat) (r : List Tok) (z : Int) : prs n (f + 1) 0 (⟨1, tx [123], 0, a⟩ :: r) 32 z = .error ((a : Int), 11) := by
  have e : (tx [123]).toList = [123] := by kernel_rfl
  simp only [prs]
  rw [if_neg (by omega), if_neg (by omega), if_neg (by rw [e]; simp), if_neg (by rw [e]; simp), if_neg (by rw [e]; simp), if_pos e, if_pos (by simp)]
theorem lis_item (n : Int) (f a : Nat) (r : List Tok) (o z : Int) : prs n (f + 1) 1 (⟨1, tx [123], 0, a⟩ :: r) o z = prs n f 0 (⟨1, tx [123], 0, a⟩ :: r) o z := by
  have h : nmB ⟨1, tx [123], 0, (a : Int)⟩ = false := by kernel_rfl
  simp only [prs]
  rw [if_neg (by rw [h]; simp)]
theorem lis_in (n : Int) (f a : Nat) (r : List Tok) (o z : Int) : prs n (f + 1) 2 (⟨1, tx [123], 0, a⟩ :: r) o z =
    match prs n f 0 (⟨1, tx [123], 0, a⟩ :: r) o z with
    | .error e => .error e
    | .ok (l1, r1, z1) => pre l1 (prs n f 2 r1 o z1) := by
  have h : isB ⟨1, tx [123], 0, (a : Int)⟩ (shB 0) = false := by kernel_rfl
  rw [prs_up, if_neg (by rw [h]; simp)]
  try rfl
theorem lis_shut (n : Int) (f a : Nat) (r : List Tok) (o z : Int) : prs n (f + 1) 2 (⟨1, tx [125], 0, a⟩ :: r) o z = .ok ([], r, z) := by
  have h : isB ⟨1, tx [125], 0, (a : Int)⟩ (shB 0) = true := by kernel_rfl
  rw [prs_up, if_pos h]
theorem lis_ok (n : Int) : ∀ (k a b : Nat) (rest : List Tok) (o z : Int) (f : Nat), o + k + 1 ≤ 32 → z + k + 1 ≤ 1024 → 3 * k + 3 ≤ f → ∃ t, prs n f 0 (wtk a (List.replicate (k + 1) [123]) ++ (wtk b (List.replicate (k + 1) [125]) ++ rest)) o z = .ok ([t], rest, z + k + 1)
  | 0, a, b, rest, o, z, f, ho, hz, hf => by
    obtain ⟨g, rfl⟩ : ∃ g, f = g + 2 := ⟨f - 2, by omega⟩
    have e1 : wtk a (List.replicate (0 + 1) [123]) = [⟨1, tx [123], 0, a⟩] := rfl
    have e2 : wtk b (List.replicate (0 + 1) [125]) = [⟨1, tx [125], 0, b⟩] := rfl
    rw [e1, e2]
    simp only [List.cons_append, List.nil_append]
    rw [lis_open n (g + 1) a _ o z (by omega), lis_shut]
    exact ⟨⟨4, 0, ⟨#[]⟩, []⟩, by simp⟩
  | k + 1, a, b, rest, o, z, f, ho, hz, hf => by
    obtain ⟨g, rfl⟩ : ∃ g, f = g + 3 := ⟨f - 3, by omega⟩
    have e1 : wtk a (List.replicate (k + 1 + 1) [123]) = ⟨1, tx [123], 0, a⟩ :: wtk (a + 2) (List.replicate (k + 1) [123]) := rfl
    have e0 : wtk (a + 2) (List.replicate (k + 1) [123]) = ⟨1, tx [123], 0, ((a + 2 : Nat) : Int)⟩ :: wtk (a + 2 + 2) (List.replicate k [123]) := rfl
    obtain ⟨c, e2⟩ : ∃ c : Nat, wtk b (List.replicate (k + 1 + 1) [125]) = wtk b (List.replicate (k + 1) [125]) ++ [⟨1, tx [125], 0, (c : Int)⟩] := ⟨_, by rw [List.replicate_succ' (n := k + 1), wtk_app]; rfl⟩
    rw [e1, e2]
    simp only [List.cons_append, List.append_assoc, List.nil_append]
    rw [lis_open n (g + 2) a _ o z (by omega)]
    obtain ⟨t, ht⟩ := lis_ok n k (a + 2) b (⟨1, tx [125], 0, (c : Int)⟩ :: rest) (o + 1) (z + 1) (g + 1) (by omega) (by omega) (by omega)
    have hp : prs n (g + 2) 2 (wtk (a + 2) (List.replicate (k + 1) [123]) ++ (wtk b (List.replicate (k + 1) [125]) ++ ⟨1, tx [125], 0, (c : Int)⟩ :: rest)) (o + 1) (z + 1) = .ok ([t], rest, z + 1 + k + 1) := by
      rw [e0] at ht ⊢
      simp only [List.cons_append] at ht ⊢
      rw [lis_in, ht]
      dsimp only
      rw [lis_shut]
      rfl
    rw [hp]
    exact ⟨_, by
      dsimp only
      rw [show z + 1 + (k : Int) + 1 = z + ((k + 1 : Nat) : Int) + 1 by omega]⟩
theorem lis_bad (n : Int) : ∀ (k a : Nat) (rest : List Tok) (o : Nat) (z : Int) (f : Nat), o ≤ 32 → 32 < o + k → z + 33 ≤ 1024 + o → 3 * k ≤ f → prs n f 0 (wtk a (List.replicate k [123]) ++ rest) o z = .error (((a + 2 * (32 - o) : Nat) : Int), 11)
  | 0, a, rest, o, z, f, ho, hk, hz, hf => by omega
  | k + 1, a, rest, o, z, f, ho, hk, hz, hf => by
    obtain ⟨g, rfl⟩ : ∃ g, f = g + 3 := ⟨f - 3, by omega⟩
    have e1 : wtk a (List.replicate (k + 1) [123]) = ⟨1, tx [123], 0, a⟩ :: wtk (a + 2) (List.replicate k [123]) := rfl
    rw [e1]
    simp only [List.cons_append]
    by_cases h32 : o = 32
    · subst h32
      rw [show ((32 : Nat) : Int) = 32 from rfl, lis_full]
      rfl
    · rw [lis_open n (g + 2) a _ o z (by omega)]
      have ih := lis_bad n k (a + 2) rest (o + 1) (z + 1) (g + 1) (by omega) (by omega) (by omega) (by omega)
      obtain ⟨j, rfl⟩ : ∃ j, k = j + 1 := ⟨k - 1, by omega⟩
      have e0 : wtk (a + 2) (List.replicate (j + 1) [123]) = ⟨1, tx [123], 0, ((a + 2 : Nat) : Int)⟩ :: wtk (a + 2 + 2) (List.replicate j [123]) := rfl
      rw [e0] at ih ⊢
      simp only [List.cons_append] at ih ⊢
      rw [show ((o + 1 : Nat) : Int) = (o : Int) + 1 by omega] at ih
      rw [lis_in, ih]
      dsimp only
      rw [show a + 2 + 2 * (32 - (o + 1)) = a + 2 * (32 - o) by omega]
theorem quo_semi (n : Int) (f a : Nat) (r : List Tok) (o z : Int) : prs n (f + 1) 4 (⟨1, tx [91], 0, a⟩ :: r) o z =
    match prs n f 1 (⟨1, tx [91], 0, a⟩ :: r) o z with
    | .error e => .error e
    | .ok (l1, r1, z1) => pre l1 (prs n f 4 r1 o z1) := by
  have h : isB ⟨1, tx [91], 0, (a : Int)⟩ (shB 2) = false := by kernel_rfl
  rw [prs_up, if_neg (by rw [h]; simp)]
  try rfl
theorem quo_form (n : Int) (f a : Nat) (r : List Tok) : fmR n (f + 1) (⟨1, tx [91], 0, a⟩ :: r) 0 0 =
    match prs n f 0 (⟨1, tx [91], 0, a⟩ :: r) 0 0 with
    | .error e => .error e
    | .ok (l, q', z') => .ok (⟨false, ⟨#[]⟩, 0, 0, [], l.headD noT⟩, q', z') := by
  have h : isB ⟨1, tx [91], 0, (a : Int)⟩ ⟨#[58]⟩ = false := by kernel_rfl
  simp only [fmR]
  rw [if_neg (by rw [h]; simp), quo_item]
  try rfl
/-- brackets alone -/
theorem quo_alone (n : Int) (k : Nat) (g : Nat) (hk : k < 80) : (32 < k → alR n 12400 (g + 2) (wtk 0 (List.replicate k [91] ++ List.replicate k [93])) = .error (64, 11)) ∧ (k ≤ 32 → 0 < k → ∃ fm, alR n 12400 (g + 2) (wtk 0 (List.replicate k [91] ++ List.replicate k [93])) = .ok [fm]) := by
  constructor
  · intro h
    have hb := quo_bad n k 0 (wtk (0 + wl (wtx (List.replicate k [91]))) (List.replicate k [93])) 0 0 12399 (by omega) (by omega) (by omega) (by omega)
    obtain ⟨j, rfl⟩ : ∃ j, k = j + 1 := ⟨k - 1, by omega⟩
    rw [← wtk_app] at hb
    have e0 : wtk 0 (List.replicate (j + 1) [91] ++ List.replicate (j + 1) [93]) = ⟨1, tx [91], 0, ((0 : Nat) : Int)⟩ :: wtk 2 (List.replicate j [91] ++ List.replicate (j + 1) [93]) := rfl
    rw [e0] at hb ⊢
    simp only [alR]
    rw [quo_form]
    have hb2 : prs n 12399 0 (⟨1, tx [91], 0, ((0 : Nat) : Int)⟩ :: wtk 2 (List.replicate j [91] ++ List.replicate (j + 1) [93])) 0 0 = .error (64, 11) := hb
    rw [hb2]
  · intro h h0
    obtain ⟨j, rfl⟩ : ∃ j, k = j + 1 := ⟨k - 1, by omega⟩
    obtain ⟨t, ht⟩ := quo_ok n j 0 (0 + wl (wtx (List.replicate (j + 1) [91]))) [] 0 0 12399 (by omega) (by omega) (by omega)
    rw [List.append_nil, ← wtk_app] at ht
    have e0 : wtk 0 (List.replicate (j + 1) [91] ++ List.replicate (j + 1) [93]) = ⟨1, tx [91], 0, ((0 : Nat) : Int)⟩ :: wtk 2 (List.replicate j [91] ++ List.replicate (j + 1) [93]) := rfl
    rw [e0] at ht ⊢
    simp only [alR]
    rw [quo_form, ht]
    exact ⟨_, rfl⟩
/-- brackets in a definition -/
theorem quo_within (n : Int) (k : Nat) (g c : Nat) (hk : k < 80) : (31 < k → alR n 12400 (g + 2) (wtk 0 ([[58], [120], [40], [45, 45], [41]] ++ (List.replicate k [91] ++ List.replicate k [93])) ++ [⟨1, tx [59], 0, (c : Int)⟩]) = .error (73, 11)) ∧ (k ≤ 31 → ∃ fm, alR n 12400 (g + 2) (wtk 0 ([[58], [120], [40], [45, 45], [41]] ++ (List.replicate k [91] ++ List.replicate k [93])) ++ [⟨1, tx [59], 0, (c : Int)⟩]) = .ok [fm]) := by
  have e0 : wtk 0 ([[58], [120], [40], [45, 45], [41]] ++ (List.replicate k [91] ++ List.replicate k [93])) = ⟨1, tx [58], 0, ((0 : Nat) : Int)⟩ :: ⟨1, tx [120], 0, ((2 : Nat) : Int)⟩ :: ⟨1, tx [40], 0, ((4 : Nat) : Int)⟩ :: ⟨1, tx [45, 45], 0, ((6 : Nat) : Int)⟩ :: ⟨1, tx [41], 0, ((9 : Nat) : Int)⟩ :: wtk 11 (List.replicate k [91] ++ List.replicate k [93]) := rfl
  have hd : ∀ q, dfR n 12400 (⟨1, tx [58], 0, ((0 : Nat) : Int)⟩ :: ⟨1, tx [120], 0, ((2 : Nat) : Int)⟩ :: ⟨1, tx [40], 0, ((4 : Nat) : Int)⟩ :: ⟨1, tx [45, 45], 0, ((6 : Nat) : Int)⟩ :: ⟨1, tx [41], 0, ((9 : Nat) : Int)⟩ :: q) 0 0 = dfC n 12400 (tx [120]) 0 0 q 0 0 := by
    intro q
    have h1 : nmB ⟨1, tx [120], 0, ((2 : Nat) : Int)⟩ = true := by kernel_rfl
    have h2 : isB ⟨1, tx [40], 0, ((4 : Nat) : Int)⟩ ⟨#[40]⟩ = true := by kernel_rfl
    have h3 : isB ⟨1, tx [45, 45], 0, ((6 : Nat) : Int)⟩ ⟨#[45, 45]⟩ = true := by kernel_rfl
    have h4 : isB ⟨1, tx [41], 0, ((9 : Nat) : Int)⟩ ⟨#[41]⟩ = true := by kernel_rfl
    simp only [dfR]
    rw [if_neg (by omega)]
    simp only [dfN]
    rw [if_neg (by rw [h1]; simp)]
    simp only [dfQ]
    rw [if_neg (by rw [h2]; simp)]
    simp only [dfA, sdR]
    rw [if_pos h3]
    dsimp only
    simp only [dfB, sdR]
    rw [if_pos h4]
  have hf : ∀ q, fmR n 12400 (⟨1, tx [58], 0, ((0 : Nat) : Int)⟩ :: q) 0 0 = dfR n 12400 (⟨1, tx [58], 0, ((0 : Nat) : Int)⟩ :: q) 0 0 := by
    intro q
    have h1 : isB ⟨1, tx [58], 0, ((0 : Nat) : Int)⟩ ⟨#[58]⟩ = true := by kernel_rfl
    simp only [fmR]
    rw [if_pos h1]
  have hs : ∀ f o z, prs n (f + 1) 4 [⟨1, tx [59], 0, (c : Int)⟩] o z = .ok ([], [], z) := by
    intro f o z
    have h1 : isB ⟨1, tx [59], 0, (c : Int)⟩ (shB 2) = true := by kernel_rfl
    rw [prs_up, if_pos h1]
  rw [e0]
  simp only [List.cons_append]
  constructor
  · intro h
    have hb := quo_bad n k 11 (wtk (11 + wl (wtx (List.replicate k [91]))) (List.replicate k [93]) ++ [⟨1, tx [59], 0, (c : Int)⟩]) 1 1 12398 (by omega) (by omega) (by omega) (by omega)
    obtain ⟨j, rfl⟩ : ∃ j, k = j + 1 := ⟨k - 1, by omega⟩
    rw [← List.append_assoc, ← wtk_app] at hb
    have e1 : wtk 11 (List.replicate (j + 1) [91] ++ List.replicate (j + 1) [93]) = ⟨1, tx [91], 0, ((11 : Nat) : Int)⟩ :: wtk 13 (List.replicate j [91] ++ List.replicate (j + 1) [93]) := rfl
    rw [e1] at hb ⊢
    simp only [List.cons_append] at hb ⊢
    simp only [alR]
    rw [hf, hd]
    unfold dfC
    have hb2 : prs n 12398 0 (⟨1, tx [91], 0, ((11 : Nat) : Int)⟩ :: (wtk 13 (List.replicate j [91] ++ List.replicate (j + 1) [93]) ++ [⟨1, tx [59], 0, (c : Int)⟩])) (0 + 1) (0 + 1) = .error (73, 11) := hb
    rw [show (12400 : Nat) = 12399 + 1 from rfl, quo_semi, show (12399 : Nat) = 12398 + 1 from rfl, quo_item, hb2]
  · intro h
    simp only [alR]
    rw [hf, hd]
    unfold dfC
    cases k with
    | zero =>
      have e1 : wtk 11 (List.replicate 0 [91] ++ List.replicate 0 [93]) = [] := rfl
      rw [e1, List.nil_append, show (12400 : Nat) = 12399 + 1 from rfl, hs]
      exact ⟨_, rfl⟩
    | succ j =>
      obtain ⟨t, ht⟩ := quo_ok n j 11 (11 + wl (wtx (List.replicate (j + 1) [91]))) [⟨1, tx [59], 0, (c : Int)⟩] (0 + 1) (0 + 1) 12398 (by omega) (by omega) (by omega)
      rw [← List.append_assoc, ← wtk_app] at ht
      have e1 : wtk 11 (List.replicate (j + 1) [91] ++ List.replicate (j + 1) [93]) = ⟨1, tx [91], 0, ((11 : Nat) : Int)⟩ :: wtk 13 (List.replicate j [91] ++ List.replicate (j + 1) [93]) := rfl
      rw [e1] at ht ⊢
      simp only [List.cons_append] at ht ⊢
      rw [show (12400 : Nat) = 12399 + 1 from rfl, quo_semi, show (12399 : Nat) = 12398 + 1 from rfl, quo_item, ht]
      dsimp only
      rw [hs]
      exact ⟨_, rfl⟩
theorem lis_semi (n : Int) (f a : Nat) (r : List Tok) (o z : Int) : prs n (f + 1) 4 (⟨1, tx [123], 0, a⟩ :: r) o z =
    match prs n f 1 (⟨1, tx [123], 0, a⟩ :: r) o z with
    | .error e => .error e
    | .ok (l1, r1, z1) => pre l1 (prs n f 4 r1 o z1) := by
  have h : isB ⟨1, tx [123], 0, (a : Int)⟩ (shB 2) = false := by kernel_rfl
  rw [prs_up, if_neg (by rw [h]; simp)]
  try rfl
theorem lis_form (n : Int) (f a : Nat) (r : List Tok) : fmR n (f + 1) (⟨1, tx [123], 0, a⟩ :: r) 0 0 =
    match prs n f 0 (⟨1, tx [123], 0, a⟩ :: r) 0 0 with
    | .error e => .error e
    | .ok (l, q', z') => .ok (⟨false, ⟨#[]⟩, 0, 0, [], l.headD noT⟩, q', z') := by
  have h : isB ⟨1, tx [123], 0, (a : Int)⟩ ⟨#[58]⟩ = false := by kernel_rfl
  simp only [fmR]
  rw [if_neg (by rw [h]; simp), lis_item]
  try rfl
/-- brackets alone -/
theorem lis_alone (n : Int) (k : Nat) (g : Nat) (hk : k < 80) : (32 < k → alR n 12400 (g + 2) (wtk 0 (List.replicate k [123] ++ List.replicate k [125])) = .error (64, 11)) ∧ (k ≤ 32 → 0 < k → ∃ fm, alR n 12400 (g + 2) (wtk 0 (List.replicate k [123] ++ List.replicate k [125])) = .ok [fm]) := by
  constructor
  · intro h
    have hb := lis_bad n k 0 (wtk (0 + wl (wtx (List.replicate k [123]))) (List.replicate k [125])) 0 0 12399 (by omega) (by omega) (by omega) (by omega)
    obtain ⟨j, rfl⟩ : ∃ j, k = j + 1 := ⟨k - 1, by omega⟩
    rw [← wtk_app] at hb
    have e0 : wtk 0 (List.replicate (j + 1) [123] ++ List.replicate (j + 1) [125]) = ⟨1, tx [123], 0, ((0 : Nat) : Int)⟩ :: wtk 2 (List.replicate j [123] ++ List.replicate (j + 1) [125]) := rfl
    rw [e0] at hb ⊢
    simp only [alR]
    rw [lis_form]
    have hb2 : prs n 12399 0 (⟨1, tx [123], 0, ((0 : Nat) : Int)⟩ :: wtk 2 (List.replicate j [123] ++ List.replicate (j + 1) [125])) 0 0 = .error (64, 11) := hb
    rw [hb2]
  · intro h h0
    obtain ⟨j, rfl⟩ : ∃ j, k = j + 1 := ⟨k - 1, by omega⟩
    obtain ⟨t, ht⟩ := lis_ok n j 0 (0 + wl (wtx (List.replicate (j + 1) [123]))) [] 0 0 12399 (by omega) (by omega) (by omega)
    rw [List.append_nil, ← wtk_app] at ht
    have e0 : wtk 0 (List.replicate (j + 1) [123] ++ List.replicate (j + 1) [125]) = ⟨1, tx [123], 0, ((0 : Nat) : Int)⟩ :: wtk 2 (List.replicate j [123] ++ List.replicate (j + 1) [125]) := rfl
    rw [e0] at ht ⊢
    simp only [alR]
    rw [lis_form, ht]
    exact ⟨_, rfl⟩
/-- brackets in a definition -/
theorem lis_within (n : Int) (k : Nat) (g c : Nat) (hk : k < 80) : (31 < k → alR n 12400 (g + 2) (wtk 0 ([[58], [120], [40], [45, 45], [41]] ++ (List.replicate k [123] ++ List.replicate k [125])) ++ [⟨1, tx [59], 0, (c : Int)⟩]) = .error (73, 11)) ∧ (k ≤ 31 → ∃ fm, alR n 12400 (g + 2) (wtk 0 ([[58], [120], [40], [45, 45], [41]] ++ (List.replicate k [123] ++ List.replicate k [125])) ++ [⟨1, tx [59], 0, (c : Int)⟩]) = .ok [fm]) := by
  have e0 : wtk 0 ([[58], [120], [40], [45, 45], [41]] ++ (List.replicate k [123] ++ List.replicate k [125])) = ⟨1, tx [58], 0, ((0 : Nat) : Int)⟩ :: ⟨1, tx [120], 0, ((2 : Nat) : Int)⟩ :: ⟨1, tx [40], 0, ((4 : Nat) : Int)⟩ :: ⟨1, tx [45, 45], 0, ((6 : Nat) : Int)⟩ :: ⟨1, tx [41], 0, ((9 : Nat) : Int)⟩ :: wtk 11 (List.replicate k [123] ++ List.replicate k [125]) := rfl
  have hd : ∀ q, dfR n 12400 (⟨1, tx [58], 0, ((0 : Nat) : Int)⟩ :: ⟨1, tx [120], 0, ((2 : Nat) : Int)⟩ :: ⟨1, tx [40], 0, ((4 : Nat) : Int)⟩ :: ⟨1, tx [45, 45], 0, ((6 : Nat) : Int)⟩ :: ⟨1, tx [41], 0, ((9 : Nat) : Int)⟩ :: q) 0 0 = dfC n 12400 (tx [120]) 0 0 q 0 0 := by
    intro q
    have h1 : nmB ⟨1, tx [120], 0, ((2 : Nat) : Int)⟩ = true := by kernel_rfl
    have h2 : isB ⟨1, tx [40], 0, ((4 : Nat) : Int)⟩ ⟨#[40]⟩ = true := by kernel_rfl
    have h3 : isB ⟨1, tx [45, 45], 0, ((6 : Nat) : Int)⟩ ⟨#[45, 45]⟩ = true := by kernel_rfl
    have h4 : isB ⟨1, tx [41], 0, ((9 : Nat) : Int)⟩ ⟨#[41]⟩ = true := by kernel_rfl
    simp only [dfR]
    rw [if_neg (by omega)]
    simp only [dfN]
    rw [if_neg (by rw [h1]; simp)]
    simp only [dfQ]
    rw [if_neg (by rw [h2]; simp)]
    simp only [dfA, sdR]
    rw [if_pos h3]
    dsimp only
    simp only [dfB, sdR]
    rw [if_pos h4]
  have hf : ∀ q, fmR n 12400 (⟨1, tx [58], 0, ((0 : Nat) : Int)⟩ :: q) 0 0 = dfR n 12400 (⟨1, tx [58], 0, ((0 : Nat) : Int)⟩ :: q) 0 0 := by
    intro q
    have h1 : isB ⟨1, tx [58], 0, ((0 : Nat) : Int)⟩ ⟨#[58]⟩ = true := by kernel_rfl
    simp only [fmR]
    rw [if_pos h1]
  have hs : ∀ f o z, prs n (f + 1) 4 [⟨1, tx [59], 0, (c : Int)⟩] o z = .ok ([], [], z) := by
    intro f o z
    have h1 : isB ⟨1, tx [59], 0, (c : Int)⟩ (shB 2) = true := by kernel_rfl
    rw [prs_up, if_pos h1]
  rw [e0]
  simp only [List.cons_append]
  constructor
  · intro h
    have hb := lis_bad n k 11 (wtk (11 + wl (wtx (List.replicate k [123]))) (List.replicate k [125]) ++ [⟨1, tx [59], 0, (c : Int)⟩]) 1 1 12398 (by omega) (by omega) (by omega) (by omega)
    obtain ⟨j, rfl⟩ : ∃ j, k = j + 1 := ⟨k - 1, by omega⟩
    rw [← List.append_assoc, ← wtk_app] at hb
    have e1 : wtk 11 (List.replicate (j + 1) [123] ++ List.replicate (j + 1) [125]) = ⟨1, tx [123], 0, ((11 : Nat) : Int)⟩ :: wtk 13 (List.replicate j [123] ++ List.replicate (j + 1) [125]) := rfl
    rw [e1] at hb ⊢
    simp only [List.cons_append] at hb ⊢
    simp only [alR]
    rw [hf, hd]
    unfold dfC
    have hb2 : prs n 12398 0 (⟨1, tx [123], 0, ((11 : Nat) : Int)⟩ :: (wtk 13 (List.replicate j [123] ++ List.replicate (j + 1) [125]) ++ [⟨1, tx [59], 0, (c : Int)⟩])) (0 + 1) (0 + 1) = .error (73, 11) := hb
    rw [show (12400 : Nat) = 12399 + 1 from rfl, lis_semi, show (12399 : Nat) = 12398 + 1 from rfl, lis_item, hb2]
  · intro h
    simp only [alR]
    rw [hf, hd]
    unfold dfC
    cases k with
    | zero =>
      have e1 : wtk 11 (List.replicate 0 [123] ++ List.replicate 0 [125]) = [] := rfl
      rw [e1, List.nil_append, show (12400 : Nat) = 12399 + 1 from rfl, hs]
      exact ⟨_, rfl⟩
    | succ j =>
      obtain ⟨t, ht⟩ := lis_ok n j 11 (11 + wl (wtx (List.replicate (j + 1) [123]))) [⟨1, tx [59], 0, (c : Int)⟩] (0 + 1) (0 + 1) 12398 (by omega) (by omega) (by omega)
      rw [← List.append_assoc, ← wtk_app] at ht
      have e1 : wtk 11 (List.replicate (j + 1) [123] ++ List.replicate (j + 1) [125]) = ⟨1, tx [123], 0, ((11 : Nat) : Int)⟩ :: wtk 13 (List.replicate j [123] ++ List.replicate (j + 1) [125]) := rfl
      rw [e1] at ht ⊢
      simp only [List.cons_append] at ht ⊢
      rw [show (12400 : Nat) = 12399 + 1 from rfl, lis_semi, show (12399 : Nat) = 12398 + 1 from rfl, lis_item, ht]
      dsimp only
      rw [hs]
      exact ⟨_, rfl⟩
end Go.Proofs.YtokponkokpdhiaaDoor
namespace Go.Proofs.YtokponkokpdhiaaDoor
open Go.RowKit
set_option linter.unusedSimpArgs false
set_option linter.unusedVariables false
def raP (s : ByteArray) (w : World) (x : Ending) (w' : World) : Prop := ∃ v, x = .returned (.tuple #[v, .int .i64 (parR s).2.1, .int .i64 (parR s).2.2]) ∧ Hid (FsAt w' w.heap.size 12400 v (parR s).1 ∧ Below w.heap.size w w')
set_option maxRecDepth 100000 in
set_option maxHeartbeats 8000000 in
theorem readAll_bad (s : ByteArray) (w : World) (h : Nog w) (hb : ¬ (tokR s).2.2 = 0) :
    Calls Tryd.prog 15 #[.string s, .func (.func 16) #[] #[]] w (raP s w) := by
  have HT : Hid (∀ w1, Only (fun _ => False) w w1 → Calls Tryd.prog 33 #[.string s] w1 fun e w' => ∃ v, e = .returned (.tuple #[v, .int .i64 ((tokR s).2.1 : Nat), .int .i64 (tokR s).2.2]) ∧ Hid (ToksAt w' w1.heap.size v (tokR s).1 ∧ Below w1.heap.size w1 w')) := fun w1 o1 => tokens_any s w1 (h.frame o1)
  have HP : Hid (∀ w', Below w.heap.size w w' → raP s w (.returned (.tuple #[.slice none 0 0, .int .i64 ((tokR s).2.1 : Nat), .int .i64 (tokR s).2.2])) w') := by
    intro w' hw
    have e1 : parR s = ([], ((tokR s).2.1 : Int), (tokR s).2.2) := by unfold parR; rw [if_neg hb]
    unfold raP
    rw [e1]
    exact ⟨_, rfl, fs_nil _ _ _, hw⟩
  obtain ⟨a, ha⟩ : ∃ a, a = (tokR s).2.1 := ⟨_, rfl⟩
  obtain ⟨e, he⟩ : ∃ e, e = (tokR s).2.2 := ⟨_, rfl⟩
  rw [← ha, ← he] at HT HP
  rw [← he] at hb
  have K0 : Hid (RaK w.heap.size (.slice none 0 0) 0 0 (((w.alloc (.cells #[.slice none 0 0] 23)).alloc (.cells #[.int .i64 0] 3)).alloc (.cells #[.int .i64 0] 24))) := RaK.start w
  have O0 : Hid (Only (fun _ => False) w (((w.alloc (.cells #[.slice none 0 0] 23)).alloc (.cells #[.int .i64 0] 3)).alloc (.cells #[.int .i64 0] 24))) := (((Only.refl _ w).alloc _).alloc _).alloc _
  clear ha he h
  go_enter_defers Tryd.func15, Tryd.ntmps15
  go_wp2_with fail
  refine (show Calls Tryd.prog 33 _ _ _ from HT.out _ O0.out).mono ?_
  rintro ex w1 ⟨v, rfl, g1⟩
  have o1 := below_only g1.out.2
  have K1 := K0.out.only o1 (fun _ _ _ h => h)
  have O1 : Hid (Only (fun _ => False) w w1) := O0.out.trans o1 (fun _ _ g => g)
  have e1 : (((w.alloc (.cells #[.slice none 0 0] 23)).alloc (.cells #[.int .i64 0] 3))).heap.size = w.heap.size + 2 := by simp
  obtain ⟨N, hN⟩ : ∃ N, N = w.heap.size := ⟨_, rfl⟩
  have HN : Hid (N = w.heap.size) := hN
  rw [← hN] at K1
  have HK1 : Hid (RaK N (.slice none 0 0) 0 0 w1) := K1
  have x0 : w1.cell? ⟨N, 0, none⟩ = some (.slice none 0 0) := by rw [blk_cells K1.bx]; rfl
  have y0 : w1.cell? ⟨N + 1, 0, none⟩ = some (.int .i64 0) := by rw [blk_cells K1.by_]; rfl
  have z0 : w1.cell? ⟨N + 2, 0, none⟩ = some (.int .i64 0) := by rw [blk_cells K1.bz]; rfl
  have fx : w1.frozen? ⟨N, 0, none⟩ = false := blk_froz K1.bx 0
  have fy : w1.frozen? ⟨N + 1, 0, none⟩ = false := blk_froz K1.by_ 0
  have fz : w1.frozen? ⟨N + 2, 0, none⟩ = false := blk_froz K1.bz 0
  rw [← hN]
  clear HT O0 K0 o1 g1 hN K1 e1
  go_wp2
  obtain ⟨W, hW⟩ : ∃ W, W = ((w1.setCell ⟨N + 1, 0, none⟩ (.int .i64 (a : Int))).setCell ⟨N + 1 + 1, 0, none⟩ (.int .i64 e)) := ⟨_, rfl⟩
  have K2 : RaK N (.slice none 0 0) (a : Int) e W := by rw [hW]; exact (HK1.out.setY _).setZ _
  have O2 : Hid (Only (fun _ => False) w W) := by
    show Only _ _ _
    have hn : N = w.heap.size := HN.out
    rw [hW]
    exact (O1.out.setCell ⟨N + 1, 0, none⟩ _ (fun h => by simp only at h; omega)).setCell ⟨N + 1 + 1, 0, none⟩ _ (fun h => by simp only at h; omega)
  rw [← hW]
  clear x0 y0 z0 fx fy fz hW HK1 O1
  have HK2 : Hid (RaK N (.slice none 0 0) (a : Int) e W) := K2
  have x0 : W.cell? ⟨N, 0, none⟩ = some (.slice none 0 0) := by rw [blk_cells K2.bx]; rfl
  have y0 : W.cell? ⟨N + 1, 0, none⟩ = some (.int .i64 (a : Int)) := by rw [blk_cells K2.by_]; rfl
  have z0 : W.cell? ⟨N + 1 + 1, 0, none⟩ = some (.int .i64 e) := by rw [blk_cells K2.bz]; rfl
  have fx : W.frozen? ⟨N, 0, none⟩ = false := blk_froz K2.bx 0
  have fy : W.frozen? ⟨N + 1, 0, none⟩ = false := blk_froz K2.by_ 0
  have fz : W.frozen? ⟨N + 1 + 1, 0, none⟩ = false := blk_froz K2.bz 0
  clear K2
  go_region
  obtain ⟨W2, hW2⟩ : ∃ W2, W2 = (((W.setCell ⟨N, 0, none⟩ (.slice none 0 0)).setCell ⟨N + 1, 0, none⟩ (.int .i64 (a : Int))).setCell ⟨N + 1 + 1, 0, none⟩ (.int .i64 e)).drew := ⟨_, rfl⟩
  have K3 : Hid (RaK N (.slice none 0 0) (a : Int) e W2) := by
    show RaK _ _ _ _ _
    rw [hW2]
    have := ((HK2.out.setX (.slice none 0 0)).setY (a : Int)).setZ e
    exact ⟨this.bx, this.by_, this.bz⟩
  have O3 : Hid (Only (fun _ => False) w W2) := by
    show Only _ _ _
    have hn : N = w.heap.size := HN.out
    rw [hW2]
    exact (((O2.out.setCell ⟨N, 0, none⟩ _ (fun h => by simp only at h; omega)).setCell ⟨N + 1, 0, none⟩ _ (fun h => by simp only at h; omega)).setCell ⟨N + 1 + 1, 0, none⟩ _ (fun h => by simp only at h; omega)).drew
  rw [← hW2]
  clear hW2 x0 y0 z0 fx fy fz HK2 O2
  go_wp2
  exact ⟨_, results_ra rfl _ _ N (N + 1) (N + 2) (by rw [blk_cells K3.out.bx]; rfl) (by rw [blk_cells K3.out.by_]; rfl) (by rw [blk_cells K3.out.bz]; rfl) rfl rfl rfl, HP.out _ (only_below O3.out)⟩
end Go.Proofs.YtokponkokpdhiaaDoor
