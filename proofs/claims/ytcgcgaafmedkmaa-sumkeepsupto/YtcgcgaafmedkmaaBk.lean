/- Numbers and lists as bytes, there and back. -/
import Derived.Test.YtcgcgaafmedkmaaSp
import Derived.Test.YtcgcgaafmedkmaaL3
namespace Go.Proofs.Ytcgcgaafmedkmaa
set_option linter.unusedVariables false

theorem getD_drop {zs : List Nat} {k c : Nat} {r : List Nat} (h : zs.drop k = c :: r) : k < zs.length ∧ zs.getD k 0 = c ∧ zs.drop (k + 1) = r := by
  have hl : k < zs.length := by
    rcases Nat.lt_or_ge k zs.length with h1 | h1
    · exact h1
    · rw [List.drop_eq_nil_of_le h1] at h; cases h
  rw [List.drop_eq_getElem_cons hl] at h
  injection h with h1 h2
  exact ⟨hl, by simp [List.getD, hl, h1], h2⟩
/-- A number's bytes are read as it. -/
theorem rd_num {zs post : List Nat} {p : Nat} : ∀ (f i m n : Nat), f + i = 9 → n < 128 ^ f → (0 < n ∨ i = 0) → zs.drop (p + i) = num n ++ post → rd zs p i m = some (m + n * 2 ^ (7 * i), p + i + (num n).length)
  | 0, i, m, n, hf, hn, h0, hd => by
    have : n = 0 := by omega
    omega
  | f + 1, i, m, n, hf, hn, h0, hd => by
    by_cases e : n < 128
    · rw [num_small e] at hd ⊢
      obtain ⟨h1, h2, h3⟩ := getD_drop (r := post) hd
      rw [rd_last (by omega) h1 h2 e, if_neg (by omega), Nat.mod_eq_of_lt e]
      rfl
    · rw [num_big e] at hd ⊢
      obtain ⟨h1, h2, h3⟩ := getD_drop (r := num (n / 128) ++ post) hd
      have hlt : n / 128 < 128 ^ f := Nat.div_lt_of_lt_mul (by rw [Nat.pow_succ] at hn; omega)
      rw [rd_more (by omega) h1 h2 (by omega), rd_num f (i + 1) _ (n / 128) (by omega) hlt (.inl (by omega)) h3]
      have e1 : (n % 128 + 128) % 128 = n % 128 := by omega
      have e2 : 2 ^ (7 * (i + 1)) = 128 * 2 ^ (7 * i) := by rw [show 7 * (i + 1) = 7 * i + 7 by omega, Nat.pow_add]; omega
      rw [e1, e2]
      have e3 : n * 2 ^ (7 * i) = n % 128 * 2 ^ (7 * i) + n / 128 * (128 * 2 ^ (7 * i)) := by
        rw [← Nat.mul_assoc, ← Nat.add_mul]
        congr 1
        omega
      rw [e3, List.length_cons]
      congr 2
      · omega
      · omega
theorem rd_num' {zs post : List Nat} {p n : Nat} (hn : n < 9223372036854775808) (hd : zs.drop p = num n ++ post) : rd zs p 0 0 = some (n, p + (num n).length) := by
  have := rd_num (zs := zs) (post := post) (p := p) 9 0 0 n rfl (by omega) (.inr rfl) hd
  simpa using this
/-- What is read as a number stands there as its bytes. -/
theorem num_rd {zs : List Nat} {p : Nat} (hz : ∀ z ∈ zs, z < 256) : ∀ (f i m : Nat) {x q : Nat}, f + i = 9 → rd zs p i m = some (x, q) → ∃ n, x = m + n * 2 ^ (7 * i) ∧ zs.drop (p + i) = num n ++ zs.drop q ∧ (0 < i → 0 < n)
  | 0, i, m, x, q, hf, h => by rw [rd_nine (by omega)] at h; cases h
  | f + 1, i, m, x, q, hf, h => by
    by_cases hl : p + i < zs.length
    · have hd := List.drop_eq_getElem_cons hl
      have hg : zs.getD (p + i) 0 = zs[p + i] := by simp [List.getD, hl]
      have hb := hz _ (List.getElem_mem hl)
      obtain ⟨c, hc⟩ : ∃ c, c = zs[p + i] := ⟨_, rfl⟩
      rw [← hc] at hd hg hb
      by_cases e : c < 128
      · rw [rd_last (by omega) hl hg e] at h
        split at h
        · cases h
        · rename_i h0
          simp only [Option.some.injEq, Prod.mk.injEq] at h
          obtain ⟨rfl, rfl⟩ := h
          refine ⟨c, by rw [Nat.mod_eq_of_lt e], by rw [hd, num_small e]; rfl, fun hi => by omega⟩
      · rw [rd_more (by omega) hl hg e] at h
        obtain ⟨n, h1, h2, h3⟩ := num_rd hz f (i + 1) _ (by omega) h
        have hn := h3 (by omega)
        have e2 : 2 ^ (7 * (i + 1)) = 128 * 2 ^ (7 * i) := by rw [show 7 * (i + 1) = 7 * i + 7 by omega, Nat.pow_add]; omega
        refine ⟨c % 128 + 128 * n, ?_, ?_, fun _ => by omega⟩
        · rw [h1, e2, Nat.add_mul, Nat.mul_assoc, Nat.mul_left_comm n]
          omega
        · rw [hd, num_big (by omega), show p + i + 1 = p + (i + 1) by omega, h2]
          rw [show (c % 128 + 128 * n) % 128 + 128 = c by omega, show (c % 128 + 128 * n) / 128 = n by omega]
          rfl
    · rw [rd_end (by omega) (by omega)] at h; cases h
theorem num_rd' {zs : List Nat} {p x q : Nat} (hz : ∀ z ∈ zs, z < 256) (h : rd zs p 0 0 = some (x, q)) : zs.drop p = num x ++ zs.drop q := by
  obtain ⟨n, h1, h2, _⟩ := num_rd hz 9 0 0 rfl h
  simp at h1
  subst h1
  simpa using h2

theorem parts_cons (z : List Nat) (r : List (List Nat)) : parts (z :: r) = num z.length ++ (z ++ parts r) := by simp [parts]
theorem splitAt_parts {zs post : List Nat} : ∀ (L : List (List Nat)) (p : Nat), (∀ z ∈ L, z.length < 9223372036854775808) → p ≤ zs.length → zs.drop p = parts L ++ post → splitAt zs L.length p = if post = [] then some L else none
  | [], p, _, hp, hd => by
    have hd : zs.drop p = post := hd
    have hl := congrArg List.length hd
    rw [List.length_drop] at hl
    rw [List.length_nil, splitAt_zero]
    by_cases e : post = []
    · subst e
      rw [if_pos rfl, if_pos (by simp at hl; omega)]
    · have : 0 < post.length := List.length_pos_iff.2 e
      rw [if_neg e, if_neg (by omega)]
  | z :: r, p, hL, hp, hd => by
    rw [parts_cons, List.append_assoc, List.append_assoc] at hd
    have hr := rd_num' (hL z List.mem_cons_self) hd
    obtain ⟨q, hq⟩ : ∃ q, q = p + (num z.length).length := ⟨_, rfl⟩
    rw [← hq] at hr
    have hdq : zs.drop q = z ++ (parts r ++ post) := by
      rw [hq, ← List.drop_drop, hd, List.drop_left]
    have hlq := congrArg List.length hdq
    have hqz := (rd_ok hr).2.2
    rw [List.length_drop, List.length_append] at hlq
    rw [List.length_cons, splitAt_more hr (by omega)]
    have hds : zs.drop (q + z.length) = parts r ++ post := by
      rw [← List.drop_drop, hdq, List.drop_left]
    rw [splitAt_parts r (q + z.length) (fun y hy => hL y (List.mem_cons_of_mem _ hy)) (by omega) hds, hdq, List.take_left]
    split <;> rfl
theorem split_join {L : List (List Nat)} {post : List Nat} (hl : L.length < 9223372036854775808) (hL : ∀ z ∈ L, z.length < 9223372036854775808) : split (join L ++ post) = if post = [] then some L else none := by
  have hd : (join L ++ post).drop 0 = num L.length ++ (parts L ++ post) := by simp [join]
  have hr := rd_num' hl hd
  unfold split
  rw [hr]
  simp only [Nat.zero_add]
  refine splitAt_parts L _ hL (by simp [join]) ?_
  have : join L ++ post = num L.length ++ (parts L ++ post) := by simp [join]
  rw [this, List.drop_left]
theorem parts_split {zs : List Nat} (hz : ∀ z ∈ zs, z < 256) : ∀ (k p : Nat) {L : List (List Nat)}, p ≤ zs.length → splitAt zs k p = some L → zs.drop p = parts L ∧ L.length = k ∧ ∀ z ∈ L, z.length < 9223372036854775808
  | 0, p, L, hp, h => by
    rw [splitAt_zero] at h
    split at h
    · rename_i e
      cases h
      exact ⟨by rw [e, List.drop_length]; rfl, rfl, fun z hz => by cases hz⟩
    · cases h
  | k + 1, p, L, hp, h => by
    cases hr : rd zs p 0 0 with
    | none => rw [splitAt_none hr] at h; cases h
    | some x =>
      obtain ⟨s, q⟩ := x
      obtain ⟨h1, h2, h3⟩ := rd_ok hr
      by_cases hs : zs.length - q < s
      · rw [splitAt_large hr hs] at h; cases h
      · rw [splitAt_more hr hs] at h
        cases h4 : splitAt zs k (q + s) with
        | none => rw [h4] at h; cases h
        | some r =>
          rw [h4] at h
          cases h
          obtain ⟨g1, g2, g3⟩ := parts_split hz k (q + s) (by omega) h4
          have hls : ((zs.drop q).take s).length = s := by rw [List.length_take, List.length_drop]; omega
          refine ⟨?_, by simp [g2], fun z hz' => ?_⟩
          · rw [parts_cons, num_rd' hz hr, hls]
            congr 1
            rw [← g1, ← List.drop_drop, List.take_append_drop]
          · rcases List.mem_cons.1 hz' with rfl | hz'
            · rw [hls]; exact h1
            · exact g3 z hz'
theorem join_split {zs : List Nat} {L : List (List Nat)} (hz : ∀ z ∈ zs, z < 256) (h : split zs = some L) : join L = zs ∧ L.length < 9223372036854775808 ∧ ∀ z ∈ L, z.length < 9223372036854775808 := by
  unfold split at h
  cases hr : rd zs 0 0 0 with
  | none => rw [hr] at h; cases h
  | some x =>
    obtain ⟨n, p⟩ := x
    rw [hr] at h
    obtain ⟨h1, h2, h3⟩ := rd_ok hr
    obtain ⟨g1, g2, g3⟩ := parts_split hz n p h3 h
    have := num_rd' hz hr
    rw [List.drop_zero] at this
    exact ⟨by unfold join; rw [g2, ← g1, ← this], by omega, g3⟩
/-- A beginning of lists as bytes is none. -/
theorem split_cut {L : List (List Nat)} {c : Nat} (hz : ∀ z ∈ join L, z < 256) (hl : L.length < 9223372036854775808) (hL : ∀ z ∈ L, z.length < 9223372036854775808) (hc : c < (join L).length) : split ((join L).take c) = none := by
  cases h : split ((join L).take c) with
  | none => rfl
  | some M =>
    obtain ⟨h1, h2, h3⟩ := join_split (fun z hz' => hz z (List.mem_of_mem_take hz')) h
    have e : join L = join M ++ (join L).drop c := by rw [h1, List.take_append_drop]
    have k1 := split_join (post := (join L).drop c) h2 h3
    rw [← e, if_neg (by intro e0; have := congrArg List.length e0; rw [List.length_drop, List.length_nil] at this; omega)] at k1
    have k2 := split_join (L := L) (post := []) hl hL
    rw [List.append_nil, if_pos rfl] at k2
    rw [k2] at k1
    cases k1
end Go.Proofs.Ytcgcgaafmedkmaa
