/- How lists of bytes that come in lie in memory, and how large they are at most. -/
import Derived.Test.YtcgcgaafmedkmaaL1
import Derived.ProofKit
import Derived.SizedLaws
import Derived.Deep.Slices
import Derived.Deep.Grids
namespace Go.Proofs.Ytcgcgaafmedkmaa
open Go.RowKit Go.ChangeShapes Go.WideShapes
set_option linter.unusedVariables false

section
variable {H : Type} {enc : TypeId × Value → H} {w : World} {base fuel : Nat} {held : Bool}
theorem bulk_pos (d : DataW H) : 0 < Rows.uptoBulk d := by
  rcases d with l | _ | _ | _ | _ | _ | _ | _ <;> try simp [Rows.uptoBulk]
  cases l <;> simp [Rows.uptoBulk]
theorem bulk_len : ∀ (l : List (DataW H)), l.length ≤ Rows.uptoBulkAll l
  | [] => by simp [Rows.uptoBulkAll]
  | d :: r => by
    have h1 := bulk_len r
    have h2 := bulk_pos d
    simp only [Rows.uptoBulkAll, List.length_cons]
    omega
theorem bulk_total : ∀ (L : List (List Nat)) (D : Nat → DataW H), (∀ i, i < L.length → (L.getD i []).length + 1 ≤ Rows.uptoBulk (D i)) → total L + L.length ≤ Rows.uptoBulkAll ((List.range L.length).map D)
  | [], D, _ => by simp [total]
  | z :: r, D, h => by
    have h0 := h 0 (by simp)
    have h1 := bulk_total r (fun i => D (i + 1)) (fun i hi => by have := h (i + 1) (by simp; omega); simpa using this)
    have e : (List.range (z :: r).length).map D = D 0 :: (List.range r.length).map (fun i => D (i + 1)) := by
      rw [List.length_cons, List.range_succ_eq_map, List.map_cons, List.map_map]
      rfl
    rw [e]
    simp only [Rows.uptoBulkAll, List.length_cons]
    simp at h0
    have e2 : total (z :: r) = z.length + total r := by simp [total]
    omega
theorem read_bytesB {v : Value} {x : DataW H × List MemPlace} (h : DataW.trod enc Try.prog w base (fun _ => true) held fuel 22 [v] = some x) (hw : ∀ n ∈ x.1.weights Try.prog 22, n ≤ reachBytes) : ∃ zs, InAt w v zs ∧ zs.length + 1 ≤ Rows.uptoBulk x.1 := by
  obtain ⟨zs, hz⟩ := read_bytes h hw
  refine ⟨zs, hz, ?_⟩
  rcases open_ints Try.underlying22 Try.underlying5 cells5 h with ⟨hcs, _⟩ | ⟨a, len, cap, ys, hcs, _, hl, hm, hy, hx, _, _⟩
  · simp at hcs
    obtain ⟨a, c, hv, _⟩ := hz.1.form
    rw [hcs] at hv
    simp only [Value.slice.injEq] at hv
    have := bulk_pos x.1
    omega
  · simp at hcs
    obtain ⟨a', c', hv, _⟩ := hz.1.form
    rw [hcs] at hv
    simp only [Value.slice.injEq] at hv
    rw [hx]
    rw [if_pos rfl] at hy
    simp only [Rows.uptoBulk]
    have := bulk_len (lits (H := H) IntKind.u8 (ys.take len))
    have e : (lits (H := H) IntKind.u8 (ys.take len)).length = len := by simp [lits]; omega
    omega
theorem cells22 : Try.prog.cellsOf 22 = 1 := by kernel_rfl
theorem bytes22 : Try.prog.bytesOf 22 = 24 := by kernel_rfl
/-- Lists of bytes that come in. -/
def ListsIn (W : World) (v : Value) (L : List (List Nat)) : Prop := LL W v L ∧ L.length ≤ 1048576 ∧ total L ≤ 1048576
theorem weightsAll_mem {P : Program} {e : TypeId} : ∀ (l : List (DataW H)) (d : DataW H), d ∈ l → ∀ n ∈ d.weights P e, n ∈ DataW.weightsAll P e l
  | d0 :: r, d, hd, n, hn => by
    simp only [DataW.weightsAll, List.mem_append]
    rcases List.mem_cons.1 hd with rfl | hd
    · exact .inl hn
    · exact .inr (weightsAll_mem r d hd n hn)
theorem exists_list {α : Type} : ∀ (len : Nat) (p : Nat → α → Prop), (∀ i, i < len → ∃ x, p i x) → ∃ l : List α, l.length = len ∧ ∀ i (h : i < l.length), p i l[i]
  | 0, _, _ => ⟨[], rfl, fun i h => by simp at h⟩
  | n + 1, p, hp => by
    obtain ⟨l, hl, hq⟩ := exists_list n p (fun i hi => hp i (by omega))
    obtain ⟨x, hx⟩ := hp n (by omega)
    refine ⟨l ++ [x], by simp [hl], fun i hi => ?_⟩
    by_cases e : i < l.length
    · rw [List.getElem_append_left e]; exact hq i e
    · have : i = l.length := by simp at hi; omega
      subst this
      rw [List.getElem_append_right (by omega)]
      simpa [hl] using hx
theorem cells?_get {a : Addr} {n : Nat} {cs : List Value} (h : w.cells? base a n = some cs) : cs.length = n ∧ ∀ j v, cs[j]? = some v → w.cell? (a.add j) = some v := by
  unfold World.cells? at h
  split at h
  · refine ⟨by simpa using mapM_some_length h, fun j v hv => ?_⟩
    have hj : j < n := by
      have := (List.getElem?_eq_some_iff.1 hv).1
      have hl : cs.length = n := by simpa using mapM_some_length h
      omega
    have := mapM_some_get h j j (by simp [hj])
    rw [this]; exact hv
  · cases h
theorem read_lists {v : Value} {x : DataW H × List MemPlace} (h : DataW.trod enc Try.prog w base (fun _ => true) held fuel 34 [v] = some x) (hw : ∀ n ∈ x.1.weights Try.prog 34, n ≤ reachBytes) (hk : Rows.uptoBulk x.1 ≤ 1048576) : ∃ L, ListsIn w v L := by
  rcases Deep.open_slice Try.underlying34 h with ⟨hcs, _⟩ | ⟨a, len, cap, m, n, D, Pl, hcs, _, hl, hm, hmm, hx, hel⟩
  · simp at hcs
    exact ⟨[], ⟨[], rfl, .inl ⟨hcs, rfl⟩, fun j hj => absurd hj (Nat.not_lt_zero _)⟩, by simp, by simp [total]⟩
  · simp at hcs
    rw [if_pos rfl] at hmm
    subst hmm
    obtain ⟨ps, hpl, hps⟩ := exists_list len (fun i (p : Value × List Nat) => w.cell? (a.add i) = some p.1 ∧ BytesAt w p.1 p.2 ∧ p.2.length + 1 ≤ Rows.uptoBulk (D i)) (fun i hi => by
      obtain ⟨cs', h1, h2⟩ := hel i (by omega)
      rw [cells22] at h1
      obtain ⟨hl1, hc1⟩ := cells?_get h1
      obtain ⟨u, rfl⟩ : ∃ u, cs' = [u] := by
        match cs', hl1 with
        | [u], _ => exact ⟨u, rfl⟩
      obtain ⟨zs, hz, hb⟩ := read_bytesB h2 (fun q hq => hw q (by
        rw [hx]
        simp only [DataW.weights, Try.underlying34]
        refine List.mem_cons_of_mem _ (List.mem_append_left _ (weightsAll_mem _ (D i) ?_ q hq))
        exact List.mem_map.2 ⟨i, List.mem_range.2 hi, rfl⟩))
      refine ⟨(u, zs), ?_, hz.1, hb⟩
      have := hc1 0 u rfl
      simpa [Addr.add] using this)
    have hbt := bulk_total (ps.map Prod.snd) D (fun i hi => by
      simp at hi
      have := (hps i hi).2.2
      simpa [List.getD, hi] using this)
    rw [hx] at hk
    simp only [Rows.uptoBulk] at hk
    rw [List.length_map, hpl] at hbt
    refine ⟨ps.map Prod.snd, ⟨ps.map Prod.fst, by simp, .inr ⟨a, m, by simpa [hpl] using hcs, by simpa [hpl] using hl, fun j hj => ?_⟩, fun j hj => ?_⟩, by simp; omega, by omega⟩
    · simp at hj
      have := (hps j hj).1
      rw [this]
      simp [List.getD, hj]
    · simp at hj
      have := (hps j hj).2.1
      simpa [List.getD, hj] using this
end
end Go.Proofs.Ytcgcgaafmedkmaa
