/- How a script that comes in lies in memory, and how long it is at most. -/
import Derived.Test.YtdcflnfdaijpdaaE8
import Derived.Test.YtdcflnfdaijpdaaIn
namespace Go.Proofs.Ytdcflnfdaijpdaa
open Go.RowKit Go.ChangeShapes Go.WideShapes
set_option linter.unusedVariables false

def ScriptAt (W : World) (v : Value) (os : List OpP) : Prop :=
  ((v = .slice none 0 0 ∧ os = []) ∨ ∃ ad c, v = .slice (some ad) os.length c ∧ ∀ i (h : i < os.length) j v, (os[i]).cells[j]? = some v → W.cell? (ad.add (i * 5 + j)) = some v) ∧ ∀ o ∈ os, o.ok W
theorem ScriptAt.frame {W W' : World} {v : Value} {os : List OpP} (h : ScriptAt W v os) (ho : Only (fun _ => False) W W') : ScriptAt W' v os := by
  refine ⟨h.1.imp id ?_, fun o hm => (h.2 o hm).frame ho⟩
  rintro ⟨ad, c, hv, hc⟩
  exact ⟨ad, c, hv, fun i hi j u hu => ho.cell (hc i hi j u hu) (fun e => e)⟩
theorem ScriptAt.get {W : World} {v : Value} {os : List OpP} (h : ScriptAt W v os) (i : Nat) (hi : i < os.length) : ∃ g o c, v = .slice (some ⟨g, o, none⟩) os.length c ∧ W.rangeAt g (o + i * 5) (os[i]).cells := by
  rcases h.1 with ⟨_, h0⟩ | ⟨ad, c, hv, hc⟩
  · subst h0; simp at hi
  · have h0 := hc i hi 0 _ rfl
    have hsp := World.cell?_spot h0
    obtain ⟨g, o, spot⟩ := ad
    have hs : spot = none := by
      by_cases e : i * 5 + 0 = 0
      · simpa [Addr.add, e] using hsp
      · have := hc 0 (by omega) 0 _ rfl
        have h2 := World.cell?_spot this
        simpa [Addr.add] using h2
    subst hs
    exact ⟨g, o, c, hv, fun j u hu => by have := hc i hi j u hu; rw [Addr.add_mid] at this; rw [Nat.add_assoc]; exact this⟩
theorem ScriptAt.form {W : World} {v : Value} {os : List OpP} (h : ScriptAt W v os) : ∃ a c, v = .slice a os.length c := by
  rcases h.1 with ⟨h1, h2⟩ | ⟨ad, c, hv, _⟩
  · exact ⟨none, 0, by rw [h1, h2]; rfl⟩
  · exact ⟨_, _, hv⟩
section
variable {H : Type} {enc : TypeId × Value → H} {w : World} {base fuel : Nat} {held : Bool}
theorem cells3 : Try.prog.cellsOf 3 = 1 := by kernel_rfl
theorem cells22 : Try.prog.cellsOf 22 = 1 := by kernel_rfl
theorem cells23 : Try.prog.cellsOf 23 = 1 := by kernel_rfl
theorem cells47 : Try.prog.cellsOf 47 = 5 := by kernel_rfl
theorem five {α : Type} : ∀ (l : List α), l.length = 5 → ∃ a b c d e, l = [a, b, c, d, e]
  | [a, b, c, d, e], _ => ⟨a, b, c, d, e, rfl⟩
theorem exists_list {α : Type} : ∀ (len : Nat) (p : Nat → α → Prop), (∀ i, i < len → ∃ x, p i x) → ∃ l : List α, l.length = len ∧ ∀ i (h : i < l.length), p i l[i]
  | 0, _, _ => ⟨[], rfl, fun i h => by simp at h⟩
  | n + 1, p, hp => by
    obtain ⟨l, hl, hq⟩ := exists_list n p (fun i hi => hp i (by omega))
    obtain ⟨x, hx⟩ := hp n (by omega)
    refine ⟨l ++ [x], by simp [hl], fun i hi => ?_⟩
    by_cases e : i < l.length
    · rw [List.getElem_append_left e]; exact hq i e
    · have : i = l.length := by simp at hi; omega
      subst this
      rw [List.getElem_append_right (by omega)]
      simpa [hl] using hx
theorem cells?_get {a : Addr} {n : Nat} {cs : List Value} (h : w.cells? base a n = some cs) : cs.length = n ∧ ∀ j v, cs[j]? = some v → w.cell? (a.add j) = some v := by
  unfold World.cells? at h
  split at h
  · refine ⟨by simpa using mapM_some_length h, fun j v hv => ?_⟩
    have hj : j < n := by
      have := (List.getElem?_eq_some_iff.1 hv).1
      have hl : cs.length = n := by simpa using mapM_some_length h
      omega
    have := mapM_some_get h j j (by simp [hj])
    rw [this]; exact hv
  · cases h
theorem weightsAll_mem {P : Program} {e : TypeId} : ∀ (l : List (DataW H)) (d : DataW H), d ∈ l → ∀ n ∈ d.weights P e, n ∈ DataW.weightsAll P e l
  | d0 :: r, d, hd, n, hn => by
    simp only [DataW.weightsAll, List.mem_append]
    rcases List.mem_cons.1 hd with rfl | hd
    · exact .inl hn
    · exact .inr (weightsAll_mem r d hd n hn)
theorem read_op {cs : List Value} {x : DataW H × List MemPlace} (h : DataW.trod enc Try.prog w base (fun _ => true) held fuel 47 cs = some x) (hw : ∀ n ∈ x.1.weights Try.prog 47, n ≤ reachBytes) : ∃ o : OpP, o.cells = cs ∧ o.ok w := by
  obtain ⟨xs, n, _, rfl, hl, hxl, hf⟩ := DataW.trod_struct Try.underlying47 h
  rw [cells47] at hl
  obtain ⟨c0, c1, c2, c3, c4, rfl⟩ := five cs hl
  obtain ⟨y0, y1, y2, y3, y4, rfl⟩ := five xs hxl
  have g0 : DataW.trod enc Try.prog w base (fun _ => true) held n 3 (([c0, c1, c2, c3, c4].drop 0).take (Try.prog.cellsOf 3)) = some y0 := hf 0 _ rfl
  rw [cells3] at g0
  have g1 : DataW.trod enc Try.prog w base (fun _ => true) held n 3 (([c0, c1, c2, c3, c4].drop 1).take (Try.prog.cellsOf 3)) = some y1 := hf 1 _ rfl
  rw [cells3] at g1
  have g2 : DataW.trod enc Try.prog w base (fun _ => true) held n 3 (([c0, c1, c2, c3, c4].drop 2).take (Try.prog.cellsOf 3)) = some y2 := hf 2 _ rfl
  rw [cells3] at g2
  have g3 : DataW.trod enc Try.prog w base (fun _ => true) held n 22 (([c0, c1, c2, c3, c4].drop 3).take (Try.prog.cellsOf 22)) = some y3 := hf 3 _ rfl
  rw [cells22] at g3
  have g4 : DataW.trod enc Try.prog w base (fun _ => true) held n 23 (([c0, c1, c2, c3, c4].drop 4).take (Try.prog.cellsOf 23)) = some y4 := hf 4 _ rfl
  rw [cells23] at g4
  simp only [List.drop_succ_cons, List.drop_zero, List.take_succ_cons, List.take_zero] at g0 g1 g2 g3 g4
  obtain ⟨n0, e0, _, w0⟩ := DataW.trod_int Try.underlying3 g0
  obtain ⟨n1, e1, _, w1⟩ := DataW.trod_int Try.underlying3 g1
  obtain ⟨n2, e2, _, w2⟩ := DataW.trod_int Try.underlying3 g2
  obtain ⟨n3, e3, _, w3⟩ := DataW.trod_int Try.underlying22 g3
  have hmem : ∀ (j : Nat) (t : TypeId) (d : DataW H), [3, 3, 3, 22, 23][j]? = some t → [y0.1, y1.1, y2.1, y3.1, y4.1][j]? = some d → ∀ n ∈ d.weights Try.prog t, n ≤ reachBytes := fun j t d ht hd n hn => by
    refine hw n ?_
    simp only [DataW.weights, Try.underlying47]
    exact DataW.weights_mem_each ht hd n hn
  obtain ⟨zs, hzs⟩ := read_bytes g4 (hmem 4 23 y4.1 rfl rfl)
  simp at e0 e1 e2 e3
  subst e0 e1 e2 e3
  exact ⟨⟨n0, n1, n2, n3, zs, c4⟩, rfl, hzs.1, w0, w1, w2, w3⟩
theorem read_scriptB {v : Value} {x : DataW H × List MemPlace} (h : DataW.trod enc Try.prog w base (fun _ => true) held fuel 38 [v] = some x) (hw : ∀ n ∈ x.1.weights Try.prog 38, n ≤ reachBytes) : ∃ os, ScriptAt w v os ∧ os.length + 1 ≤ Rows.uptoBulk x.1 := by
  rcases Deep.open_slice Try.underlying38 h with ⟨hcs, _⟩ | ⟨a, len, cap, m, n, D, Pl, hcs, _, hl, hm, hmm, hx, hel⟩
  · simp at hcs
    exact ⟨[], ⟨.inl ⟨hcs, rfl⟩, fun o ho => by cases ho⟩, bulk_pos x.1⟩
  · simp at hcs
    rw [if_pos rfl] at hmm
    subst hmm
    obtain ⟨os, hol, hos⟩ := exists_list len (fun i (o : OpP) => (∀ j v, o.cells[j]? = some v → w.cell? (a.add (i * 5 + j)) = some v) ∧ o.ok w) (fun i hi => by
      obtain ⟨cs', h1, h2⟩ := hel i (by omega)
      rw [cells47] at h1
      obtain ⟨o, ho1, ho2⟩ := read_op h2 (fun q hq => hw q (by
        rw [hx]
        simp only [DataW.weights, Try.underlying38]
        refine List.mem_cons_of_mem _ (List.mem_append_left _ (weightsAll_mem _ (D i) ?_ q hq))
        exact List.mem_map.2 ⟨i, List.mem_range.2 hi, rfl⟩))
      refine ⟨o, fun j v hv => ?_, ho2⟩
      rw [ho1] at hv
      rw [← Deep.add_add]
      exact (cells?_get h1).2 j v hv)
    refine ⟨os, ⟨.inr ⟨a, m, by rw [hol]; exact hcs, fun i hi => (hos i hi).1⟩, fun o ho => ?_⟩, ?_⟩
    · obtain ⟨i, hi, rfl⟩ := List.getElem_of_mem ho
      exact (hos i hi).2
    · rw [hx]
      simp only [Rows.uptoBulk]
      have e : ∀ l : List (DataW H), l.length = len → len ≤ Rows.uptoBulkAll l := fun l h => h ▸ bulk_len l
      have := e ((List.range len).map D) (by simp)
      omega
end
theorem size47 : (Try.prog.info? 47).map (·.size) = some 5 := by kernel_rfl
end Go.Proofs.Ytdcflnfdaijpdaa
