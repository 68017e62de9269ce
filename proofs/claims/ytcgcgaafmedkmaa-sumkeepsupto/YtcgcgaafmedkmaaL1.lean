/- How lists of bytes lie in memory, those that come in and those that are made. -/
import Derived.Test.YtcgcgaafmedkmaaS9
namespace Go.Proofs.Ytcgcgaafmedkmaa
open Go.RowKit
set_option linter.unusedSimpArgs false
set_option linter.unusedVariables false

/-- The slice v holds slices that hold the bytes L. -/
def LL (w : World) (v : Value) (L : List (List Nat)) : Prop :=
  ∃ us : List Value, us.length = L.length ∧ RowAt w v L.length 1 (fun j => us.getD j undef) ∧ ∀ j, j < L.length → BytesAt w (us.getD j undef) (L.getD j [])
theorem LL.frame {w w' : World} {v : Value} {L : List (List Nat)} (h : LL w v L) (ho : Only (fun _ => False) w w') : LL w' v L := by
  obtain ⟨us, h1, h2, h3⟩ := h
  exact ⟨us, h1, h2.frame ho (fun _ e => e.elim), fun j hj => (h3 j hj).frame ho⟩
theorem LL.frameB {w w' : World} {v : Value} {L : List (List Nat)} {B : Nat} (h : LL w v L) (hB : w.heap.size ≤ B) (ho : Only (fun i => B ≤ i) w w') : LL w' v L :=
  h.frame (ho.mono (fun k hk e => by omega))
/-- What a walk wants of it. -/
theorem LL.form {w : World} {v : Value} {L : List (List Nat)} (h : LL w v L) : ∃ a c, v = .slice a L.length c ∧ ∀ j, j < L.length → ∃ g o u, a = some ⟨g, o, none⟩ ∧ w.cell? ⟨g, o + j, none⟩ = some u ∧ BytesAt w u (L.getD j []) := by
  obtain ⟨us, h1, h2, h3⟩ := h
  rcases h2 with ⟨rfl, h0⟩ | ⟨ad, c, rfl, hkc, hc⟩
  · exact ⟨none, 0, by rw [h0], fun j hj => by omega⟩
  · refine ⟨some ad, c, rfl, fun j hj => ?_⟩
    obtain ⟨g, o, c', hv, hc', _⟩ := RowAt.at (.inr ⟨ad, c, rfl, hkc, hc⟩) (by omega : 0 < L.length * 1)
    simp only [Value.slice.injEq, Option.some.injEq] at hv
    obtain ⟨rfl, _, rfl⟩ := hv
    exact ⟨g, o, _, rfl, hc' j (by omega), h3 j hj⟩

theorem Fresh.frame' {w w' : World} {B : Nat} {v : Value} {zs : List Nat} {bs : Nat → Prop} (h : Fresh w B v zs) (ho : Only bs w w') (hn : ∀ k, v.ownBlock = some k → ¬ bs k) : Fresh w' B v zs := ⟨ho.owns h.1 hn, h.2⟩
theorem Fresh.low {w : World} {B B' : Nat} {v : Value} {zs : List Nat} (h : Fresh w B v zs) (hB : B' ≤ B) : Fresh w B' v zs := by
  refine ⟨⟨h.1.1, ?_⟩, h.2⟩
  rcases h.1.2 with hz | ⟨g, cap, cur, hv, hb, rest⟩
  · exact .inl hz
  · exact .inr ⟨g, cap, cur, hv, by omega, rest⟩
theorem rows_apart {w : World} {B B' n m : Nat} {u v : Value} {xs ys : List Value} (hu : w.ownsRow B 5 1 u n xs) (hv : w.ownsRow B' 22 1 v m ys) (k : Nat) (h1 : u.ownBlock = some k) (h2 : v.ownBlock = some k) : False := by
  rcases hu.2 with ⟨rfl, _⟩ | ⟨g, cap, cur, rfl, _, hg, _⟩
  · cases h1
  · rcases hv.2 with ⟨rfl, _⟩ | ⟨g', cap', cur', rfl, _, hg', _⟩
    · cases h2
    · simp [Value.ownBlock] at h1 h2
      subst h1 h2
      rw [hg] at hg'
      simp at hg'

/-- Lists that were made since B: each has a block of its own. -/
structure FL (w : World) (B : Nat) (v : Value) (us : List Value) (L : List (List Nat)) : Prop where
  own : w.ownsRow B 22 1 v L.length us
  len : us.length = L.length
  at_ : ∀ j, j < L.length → Fresh w B (us.getD j undef) (L.getD j [])
  sep : ∀ i j b, i < j → j < L.length → (us.getD i undef).ownBlock = some b → (us.getD j undef).ownBlock ≠ some b
theorem FL.frame {w w' : World} {B : Nat} {v : Value} {us : List Value} {L : List (List Nat)} (h : FL w B v us L) (ho : Only (fun _ => False) w w') : FL w' B v us L :=
  ⟨ho.owns h.own (fun _ _ e => e), h.len, fun j hj => (h.at_ j hj).frame ho, h.sep⟩
theorem FL.frame' {w w' : World} {B C : Nat} {v : Value} {us : List Value} {L : List (List Nat)} (h : FL w B v us L) (ho : Only (fun i => C ≤ i) w w') (hC : w.heap.size ≤ C) : FL w' B v us L :=
  h.frame (ho.mono (fun k hk e => by omega))
theorem FL.nil (w : World) (B : Nat) : FL w B (.slice none 0 0) [] [] := ⟨World.ownsRow_nil _ _ _ _, rfl, fun j hj => absurd hj (Nat.not_lt_zero _), fun i j b _ hj => absurd hj (Nat.not_lt_zero _)⟩
theorem getD_snoc_lt {α : Type} (l : List α) (x d : α) (j : Nat) (h : j < l.length) : (l ++ [x]).getD j d = l.getD j d := by
  simp only [List.getD]; rw [List.getElem?_append_left h]
theorem getD_snoc_last {α : Type} (l : List α) (x d : α) : (l ++ [x]).getD l.length d = x := by
  simp [List.getD]
theorem FL.more {w w' : World} {B : Nat} {v v' u : Value} {us : List Value} {L : List (List Nat)} {z : List Nat} (h : FL w B v us L) (hu : Fresh w B u z) (hn : ∀ j b, j < L.length → (us.getD j undef).ownBlock = some b → u.ownBlock ≠ some b)
    (own : w'.ownsRow B 22 1 v' (L.length + 1) (us ++ [u])) (hg : w.grownBy w' v.ownBlock) : FL w' B v' (us ++ [u]) (L ++ [z]) := by
  have ho : Only (fun k => v.ownBlock = some k) w w' := (Only.refl _ w).grown hg (fun k e _ => e)
  have hl := h.len
  refine ⟨by rw [List.length_append]; exact own, by simp [hl], fun j hj => ?_, fun i j b hij hj => ?_⟩
  · by_cases e : j < L.length
    · rw [getD_snoc_lt _ _ _ _ (by omega), getD_snoc_lt _ _ _ _ e]
      exact (h.at_ j e).frame' ho (fun k hk hk2 => rows_apart (h.at_ j e).1 h.own k hk hk2)
    · obtain rfl : j = L.length := by simp at hj; omega
      rw [getD_snoc_last, ← hl, getD_snoc_last]
      exact hu.frame' ho (fun k hk hk2 => rows_apart hu.1 h.own k hk hk2)
  · by_cases e : j < L.length
    · rw [getD_snoc_lt _ _ _ _ (by omega), getD_snoc_lt _ _ _ _ (by omega)]
      exact h.sep i j b hij e
    · obtain rfl : j = L.length := by simp at hj; omega
      rw [getD_snoc_lt _ _ _ _ (by omega), ← hl, getD_snoc_last]
      exact hn i b (by omega)
theorem FL.lists {w : World} {B : Nat} {v : Value} {us : List Value} {L : List (List Nat)} (h : FL w B v us L) : LL w v L := by
  refine ⟨us, h.len, ?_, fun j hj => (h.at_ j hj).bytes⟩
  obtain ⟨a, c, rfl⟩ := ownsRow_slice h.own
  refine rowAt_own (B := B) (e := 22) ?_
  have : (List.range L.length).map (fun j => us.getD j undef) = us := by
    apply List.ext_getElem
    · simp [h.len]
    · intro i h1 h2
      simp at h1
      have : i < us.length := by rw [h.len]; exact h1
      simp [List.getD, this]
  rw [this]
  exact h.own
theorem FL.slice {w : World} {B : Nat} {v : Value} {us : List Value} {L : List (List Nat)} (h : FL w B v us L) : ∃ a c, v = .slice a L.length c := ownsRow_slice h.own
theorem LL.slice {w : World} {v : Value} {L : List (List Nat)} (h : LL w v L) : ∃ a c, v = .slice a L.length c := by
  obtain ⟨a, c, hv, _⟩ := h.form
  exact ⟨a, c, hv⟩
/-- So many bytes. -/
def total (L : List (List Nat)) : Nat := (L.map List.length).sum
theorem total_snoc (L : List (List Nat)) (z : List Nat) : total (L ++ [z]) = total L + z.length := by simp [total]
theorem total_take (L : List (List Nat)) (k : Nat) (h : k < L.length) : total (L.take (k + 1)) = total (L.take k) + (L.getD k []).length := by
  rw [List.take_succ_eq_append_getElem h, total_snoc]
  simp [List.getD, h]
theorem total_take_le (L : List (List Nat)) (k : Nat) : total (L.take k) ≤ total L := by
  have : total (L.take k) + total (L.drop k) = total L := by
    unfold total
    rw [← List.sum_append, ← List.map_append, List.take_append_drop]
  omega
end Go.Proofs.Ytcgcgaafmedkmaa
