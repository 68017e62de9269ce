/- Which bytes are lists. -/
import Derived.Test.YtcgcgaafmedkmaaRd
namespace Go.Proofs.Ytcgcgaafmedkmaa
set_option linter.unusedVariables false

/-- k lists from p on, up to the end. -/
def splitAt (zs : List Nat) : Nat → Nat → Option (List (List Nat))
  | 0, p => if p = zs.length then some [] else none
  | k + 1, p => match rd zs p 0 0 with
    | none => none
    | some (s, q) => if zs.length - q < s then none else (splitAt zs k (q + s)).map (fun r => (zs.drop q).take s :: r)
def split (zs : List Nat) : Option (List (List Nat)) := match rd zs 0 0 0 with
  | none => none
  | some (n, p) => splitAt zs n p
theorem splitAt_none {zs : List Nat} {k p : Nat} (h : rd zs p 0 0 = none) : splitAt zs (k + 1) p = none := by simp only [splitAt, h]
theorem splitAt_large {zs : List Nat} {k p s q : Nat} (h : rd zs p 0 0 = some (s, q)) (hs : zs.length - q < s) : splitAt zs (k + 1) p = none := by simp only [splitAt, h, if_pos hs]
theorem splitAt_more {zs : List Nat} {k p s q : Nat} (h : rd zs p 0 0 = some (s, q)) (hs : ¬ zs.length - q < s) : splitAt zs (k + 1) p = (splitAt zs k (q + s)).map (fun r => (zs.drop q).take s :: r) := by simp only [splitAt, h, if_neg hs]
theorem splitAt_zero {zs : List Nat} {p : Nat} : splitAt zs 0 p = if p = zs.length then some [] else none := rfl
theorem rd_ok {zs : List Nat} {p m q : Nat} (h : rd zs p 0 0 = some (m, q)) : m < 9223372036854775808 ∧ p < q ∧ q ≤ zs.length := rd_some 9 0 0 rfl (by decide) h
/-- Each list has a byte ahead at least. -/
theorem splitAt_le {zs : List Nat} : ∀ (k p : Nat) {L : List (List Nat)}, splitAt zs k p = some L → p + k ≤ zs.length
  | 0, p, L, h => by
    rw [splitAt_zero] at h
    split at h
    · omega
    · cases h
  | k + 1, p, L, h => by
    cases hr : rd zs p 0 0 with
    | none => rw [splitAt_none hr] at h; cases h
    | some x =>
      obtain ⟨s, q⟩ := x
      obtain ⟨h1, h2, h3⟩ := rd_ok hr
      by_cases hs : zs.length - q < s
      · rw [splitAt_large hr hs] at h; cases h
      · rw [splitAt_more hr hs] at h
        cases h4 : splitAt zs k (q + s) with
        | none => rw [h4] at h; cases h
        | some r =>
          have := splitAt_le k (q + s) h4
          omega
/-- What comes of zs, the lists A read, k to come from p on. -/
def rest (zs : List Nat) (A : List (List Nat)) (k p : Nat) : Option (List (List Nat)) := (splitAt zs k p).map (fun r => A ++ r)
theorem rest_start {zs : List Nat} {k p : Nat} : rest zs [] k p = splitAt zs k p := by simp [rest]
theorem rest_more {zs : List Nat} {A : List (List Nat)} {k p s q : Nat} (h : rd zs p 0 0 = some (s, q)) (hs : ¬ zs.length - q < s) : rest zs A (k + 1) p = rest zs (A ++ [(zs.drop q).take s]) k (q + s) := by
  unfold rest
  rw [splitAt_more h hs, Option.map_map]
  congr 1
  funext r
  simp
theorem rest_none {zs : List Nat} {A : List (List Nat)} {k p : Nat} (h : rd zs p 0 0 = none) : rest zs A (k + 1) p = none := by unfold rest; rw [splitAt_none h]; rfl
theorem rest_large {zs : List Nat} {A : List (List Nat)} {k p s q : Nat} (h : rd zs p 0 0 = some (s, q)) (hs : zs.length - q < s) : rest zs A (k + 1) p = none := by unfold rest; rw [splitAt_large h hs]; rfl
theorem rest_end {zs : List Nat} {A : List (List Nat)} : rest zs A 0 zs.length = some A := by simp [rest, splitAt_zero]
theorem rest_over {zs : List Nat} {A : List (List Nat)} {p : Nat} (h : p ≠ zs.length) : rest zs A 0 p = none := by simp [rest, splitAt_zero, h]
end Go.Proofs.Ytcgcgaafmedkmaa
