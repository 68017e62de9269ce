/- The walk of SumLists. -/
import Derived.Test.YtcgcgaafmedkmaaL6
import Derived.Test.YtcgcgaafmedkmaaLIn
namespace Go.Proofs.Ytcgcgaafmedkmaa
open Go.RowKit
set_option linter.unusedSimpArgs false
set_option linter.unusedVariables false

/-- What both Splits have answered: a value and an error, lists alike. -/
theorem splits_alike {w1 w2 : World} {B1 B2 : Nat} {r : Option (List (List Nat))} {e1 e2 : Ending} (h1 : SplitIs r B1 e1 w1) (h2 : SplitIs r B2 e2 w2) (o : Only (fun _ => False) w1 w2) :
    ∃ (u1 u2 : Value) (x : Int) (L : List (List Nat)), e1 = .returned (.tuple #[u1, .int .i64 x]) ∧ e2 = .returned (.tuple #[u2, .int .i64 x]) ∧ LL w2 u1 L ∧ LL w2 u2 L ∧ (L = [] ∨ r = some L) := by
  have hnil : LL w2 (.slice none 0 0) [] := ⟨[], rfl, .inl ⟨rfl, rfl⟩, fun j hj => absurd hj (Nat.not_lt_zero _)⟩
  rcases h1 with ⟨L, u, us, hr, rfl, hf⟩ | ⟨hr, rfl⟩
  · rcases h2 with ⟨L', u', us', hr', rfl, hf'⟩ | ⟨hr', rfl⟩
    · rw [hr] at hr'
      obtain rfl : L = L' := Option.some.inj hr'
      exact ⟨_, _, _, L, rfl, rfl, hf.lists.frame o, hf'.lists, .inr hr⟩
    · rw [hr] at hr'; cases hr'
  · rcases h2 with ⟨L', u', us', hr', rfl, hf'⟩ | ⟨hr', rfl⟩
    · rw [hr] at hr'; cases hr'
    · exact ⟨_, _, _, [], rfl, rfl, hnil, hnil, .inl rfl⟩
theorem splitAt_len {zs : List Nat} : ∀ (k p : Nat) {L : List (List Nat)}, splitAt zs k p = some L → L.length = k
  | 0, p, L, h => by
    rw [splitAt_zero] at h
    split at h
    · cases h; rfl
    · cases h
  | k + 1, p, L, h => by
    cases hr : rd zs p 0 0 with
    | none => rw [splitAt_none hr] at h; cases h
    | some x =>
      obtain ⟨s, q⟩ := x
      by_cases hs : zs.length - q < s
      · rw [splitAt_large hr hs] at h; cases h
      · rw [splitAt_more hr hs] at h
        cases h4 : splitAt zs k (q + s) with
        | none => rw [h4] at h; cases h
        | some r =>
          rw [h4] at h
          have := splitAt_len k (q + s) h4
          cases h
          simp [this]
theorem split_len {zs : List Nat} {L : List (List Nat)} (h : split zs = some L) : L.length ≤ zs.length := by
  unfold split at h
  cases hr : rd zs 0 0 0 with
  | none => rw [hr] at h; cases h
  | some x =>
    obtain ⟨n, p⟩ := x
    rw [hr] at h
    have h1 := splitAt_le n p h
    have h2 := splitAt_len n p h
    omega

set_option maxRecDepth 100000 in
set_option maxHeartbeats 2000000 in
theorem lists_any (vl vb : Value) (L : List (List Nat)) (Z : List Nat) (w : World) (hl : ListsIn w vl L) (hb : BytesAt w vb Z) (hz : Z.length ≤ 1048576) :
    Calls Try.prog 4 #[vl, vb] w fun e w' => e = .returned (.bool true) ∧ Below w.heap.size w w' := by
  obtain ⟨hl, hl1, hl2⟩ := hl
  have HL : Hid (LL w vl L) := hl
  have HB : Hid (BytesAt w vb Z) := hb
  clear hl hb
  go_enter Try.func4, Try.ntmps4
  go_wp2_with fail
  refine (awake_any w).mono ?_
  rintro e w1 ⟨rfl, ho⟩
  have O1 : Hid (Only (fun _ => False) w w1) := ho
  clear ho
  go_wp2_with fail
  refine (owns_any vl L w1 (HL.out.frame O1.out) hl1).mono ?_
  rintro e w2 ⟨u, us, rfl, hf, ho⟩
  have O2 : Hid (Only (fun _ => False) w w2) := O1.out.trans ho (fun _ _ e => e)
  have HF : Hid (LL w2 u L) := hf.lists
  clear ho hf O1
  go_wp2_with fail
  refine (join_any u L w2 HF.out hl1 hl2).mono ?_
  rintro e w3 ⟨u3, rfl, hf, ho⟩
  have O3 : Hid (Only (fun _ => False) w w3) := O2.out.trans ho (fun _ _ e => e)
  have HJ : Hid (BytesAt w3 u3 (join L)) := hf.bytes
  clear ho hf O2 HF
  go_wp2_with fail
  refine (rjoin_any vl L w3 (HL.out.frame O3.out) hl1 hl2).mono ?_
  rintro e w4 ⟨u4, rfl, hf, ho⟩
  have O4 : Hid (Only (fun _ => False) w w4) := O3.out.trans ho (fun _ _ e => e)
  have HJ2 : Hid (BytesAt w4 u3 (join L)) := HJ.out.frame ho
  have HJ3 : Hid (BytesAt w4 u4 (join L)) := hf.bytes
  clear ho hf O3 HJ
  go_wp2_with fail
  refine (same_any u3 u4 _ w4 HJ2.out HJ3.out).mono ?_
  rintro e w5 ⟨rfl, ho⟩
  have O5 : Hid (Only (fun _ => False) w w5) := O4.out.trans ho (fun _ _ e => e)
  clear ho HJ2 HJ3 O4
  go_wp2_with fail
  refine (own_any vb Z w5 (HB.out.frame O5.out)).mono ?_
  rintro e w6 ⟨u6, rfl, hf, ho⟩
  have O6 : Hid (Only (fun _ => False) w w6) := O5.out.trans ho (fun _ _ e => e)
  have HF6 : Hid (BytesAt w6 u6 Z) := hf.bytes
  clear ho hf O5
  go_wp2_with fail
  refine (split_any u6 Z w6 HF6.out (by omega)).mono ?_
  rintro e w7 ⟨hs7, ho⟩
  have O7 : Hid (Only (fun _ => False) w w7) := O6.out.trans ho (fun _ _ e => e)
  have HS7 : Hid (SplitIs (split Z) w6.heap.size e w7) := hs7
  have hC8 := rsplit_any vb Z w7 (HB.out.frame O7.out) (by omega)
  have hform : ∃ (u1 : Value) (x : Int), e = .returned (.tuple #[u1, .int .i64 x]) := by
    rcases hs7 with ⟨L, u, us, hr, rfl, hf⟩ | ⟨hr, rfl⟩
    · exact ⟨_, _, rfl⟩
    · exact ⟨_, _, rfl⟩
  obtain ⟨u7, x7, rfl⟩ := hform
  clear ho hs7 O6 HF6
  go_wp2_with fail
  refine hC8.mono ?_
  rintro e w8 ⟨hs8, ho⟩
  have O8 : Hid (Only (fun _ => False) w w8) := O7.out.trans ho (fun _ _ e => e)
  obtain ⟨a1, a2, x, K, he1, rfl, hk1, hk2, hk3⟩ := splits_alike HS7.out hs8 ho
  simp only [Ending.returned.injEq, Value.tuple.injEq, Array.mk.injEq, List.cons.injEq, and_true, Value.int.injEq, true_and] at he1
  obtain ⟨rfl, rfl⟩ := he1
  have hkl : K.length ≤ 140737488355328 := by
    rcases hk3 with rfl | hk3
    · simp
    · have := split_len hk3; omega
  have HC9 := samel_any u7 a2 K w8 hk1 hk2 hkl
  clear hC8 hs8 ho hk1 hk2 hk3 HS7 hkl
  go_wp2_with fail
  refine HC9.mono ?_
  rintro e w9 ⟨rfl, ho⟩
  have O9 : Hid (Below w.heap.size w w9) := (O8.out.trans ho (fun _ _ e => e)).below (fun _ h => h.elim) (Nat.le_refl _)
  clear HC9 ho
  go_wp2
  go_ret
  exact ⟨rfl, O9.out⟩
end Go.Proofs.Ytcgcgaafmedkmaa
