/- How a script that comes in lies in memory. -/
import Derived.Test.YtpoakkdkibameaaA8
import Derived.ProofKit
import Derived.SizedLaws
import Derived.Deep.Slices
import Derived.Deep.Grids
namespace Go.Proofs.Ytpoakkdkibameaa
open Go.RowKit Go.ChangeShapes Go.WideShapes
set_option linter.unusedVariables false

/-- A call of a script: its kind, page, two numbers, data; the two slices as they lie. -/
structure OpS where
  kind : Int
  i : Int
  n : Int
  cut : Int
  b : List Nat
  vb : Value
  vk : Value
def OpS.cells (o : OpS) : List Value := [.int .i64 o.kind, .int .i64 o.i, .int .i64 o.n, .int .i64 o.cut, o.vb, o.vk]
def OpS.ok (W : World) (o : OpS) : Prop := BytesAt W o.vb o.b ∧ ∃ a n c, o.vk = .slice a n c
theorem OpS.ok.frame {W W' : World} {o : OpS} (h : o.ok W) (ho : Only (fun _ => False) W W') : o.ok W' := ⟨h.1.frame ho, h.2⟩
def ScriptAt (W : World) (v : Value) (os : List OpS) : Prop :=
  ((v = .slice none 0 0 ∧ os = []) ∨ ∃ ad c, v = .slice (some ad) os.length c ∧ os.length ≤ c ∧ ∀ i (h : i < os.length) j v, (os[i]).cells[j]? = some v → W.cell? (ad.add (i * 6 + j)) = some v) ∧ os.length ≤ 140737488351232 ∧ ∀ o ∈ os, o.ok W
theorem ScriptAt.get {W : World} {v : Value} {os : List OpS} (h : ScriptAt W v os) (i : Nat) (hi : i < os.length) : ∃ g o c, v = .slice (some ⟨g, o, none⟩) os.length c ∧ W.rangeAt g (o + i * 6) (os[i]).cells ∧ os.length ≤ c := by
  rcases h.1 with ⟨_, h0⟩ | ⟨ad, c, hv, hc⟩
  · subst h0; simp at hi
  · obtain ⟨hcap, hc⟩ := hc
    have h0 := hc i hi 0 _ rfl
    have hsp := World.cell?_spot h0
    obtain ⟨g, o, spot⟩ := ad
    have hs : spot = none := by
      by_cases e : i * 6 + 0 = 0
      · simpa [Addr.add, e] using hsp
      · have := hc 0 (by omega) 0 _ rfl
        have h2 := World.cell?_spot this
        simpa [Addr.add] using h2
    subst hs
    exact ⟨g, o, c, hv, fun j u hu => by have := hc i hi j u hu; rw [Addr.add_mid] at this; rw [Nat.add_assoc]; exact this, hcap⟩
theorem ScriptAt.form {W : World} {v : Value} {os : List OpS} (h : ScriptAt W v os) : ∃ a c, v = .slice a os.length c := by
  rcases h.1 with ⟨h1, h2⟩ | ⟨ad, c, hv, _⟩
  · exact ⟨none, 0, by rw [h1, h2]; rfl⟩
  · exact ⟨_, _, hv⟩
section
variable {H : Type} {enc : TypeId × Value → H} {w : World} {base fuel : Nat} {held : Bool}
theorem cellsI : Try.prog.cellsOf 3 = 1 := by kernel_rfl
theorem cellsB : Try.prog.cellsOf 28 = 1 := by kernel_rfl
theorem cellsF : Try.prog.cellsOf 29 = 1 := by kernel_rfl
theorem cellsO : Try.prog.cellsOf 31 = 6 := by kernel_rfl
theorem bytesO : Try.prog.bytesOf 31 = 80 := by kernel_rfl
theorem six {α : Type} : ∀ (l : List α), l.length = 6 → ∃ a b c d e f, l = [a, b, c, d, e, f]
  | [a, b, c, d, e, f], _ => ⟨a, b, c, d, e, f, rfl⟩
theorem exists_list {α : Type} : ∀ (len : Nat) (p : Nat → α → Prop), (∀ i, i < len → ∃ x, p i x) → ∃ l : List α, l.length = len ∧ ∀ i (h : i < l.length), p i l[i]
  | 0, _, _ => ⟨[], rfl, fun i h => by simp at h⟩
  | n + 1, p, hp => by
    obtain ⟨l, hl, hq⟩ := exists_list n p (fun i hi => hp i (by omega))
    obtain ⟨x, hx⟩ := hp n (by omega)
    refine ⟨l ++ [x], by simp [hl], fun i hi => ?_⟩
    by_cases e : i < l.length
    · rw [List.getElem_append_left e]; exact hq i e
    · have : i = l.length := by simp at hi; omega
      subst this
      rw [List.getElem_append_right (by omega)]
      simpa [hl] using hx
theorem cells?_get {a : Addr} {n : Nat} {cs : List Value} (h : w.cells? base a n = some cs) : cs.length = n ∧ ∀ j v, cs[j]? = some v → w.cell? (a.add j) = some v := by
  unfold World.cells? at h
  split at h
  · refine ⟨by simpa using mapM_some_length h, fun j v hv => ?_⟩
    have hj : j < n := by
      have := (List.getElem?_eq_some_iff.1 hv).1
      have hl : cs.length = n := by simpa using mapM_some_length h
      omega
    have := mapM_some_get h j j (by simp [hj])
    rw [this]; exact hv
  · cases h
theorem weightsAll_mem {P : Program} {e : TypeId} : ∀ (l : List (DataW H)) (d : DataW H), d ∈ l → ∀ n ∈ d.weights P e, n ∈ DataW.weightsAll P e l
  | d0 :: r, d, hd, n, hn => by
    simp only [DataW.weightsAll, List.mem_append]
    rcases List.mem_cons.1 hd with rfl | hd
    · exact .inl hn
    · exact .inr (weightsAll_mem r d hd n hn)
theorem read_flags1 {v : Value} {x : DataW H × List MemPlace} (h : DataW.trod enc Try.prog w base (fun _ => true) held fuel 29 [v] = some x) : ∃ a n c, v = .slice a n c := by
  rcases Deep.open_slice Try.underlying29 h with ⟨hcs, _⟩ | ⟨a, len, cap, m, n, D, Pl, hcs, _⟩
  · simp at hcs; exact ⟨none, 0, 0, hcs⟩
  · simp at hcs; exact ⟨_, _, _, hcs⟩
theorem read_op {cs : List Value} {x : DataW H × List MemPlace} (h : DataW.trod enc Try.prog w base (fun _ => true) held fuel 31 cs = some x) (hw : ∀ n ∈ x.1.weights Try.prog 31, n ≤ reachBytes) : ∃ o : OpS, o.cells = cs ∧ o.ok w := by
  obtain ⟨xs, n, _, rfl, hl, hxl, hf⟩ := DataW.trod_struct Try.underlying31 h
  rw [cellsO] at hl
  obtain ⟨c0, c1, c2, c3, c4, c5, rfl⟩ := six cs hl
  obtain ⟨y0, y1, y2, y3, y4, y5, rfl⟩ := six xs hxl
  have g0 : DataW.trod enc Try.prog w base (fun _ => true) held n 3 (([c0, c1, c2, c3, c4, c5].drop 0).take (Try.prog.cellsOf 3)) = some y0 := hf 0 _ rfl
  rw [cellsI] at g0
  have g1 : DataW.trod enc Try.prog w base (fun _ => true) held n 3 (([c0, c1, c2, c3, c4, c5].drop 1).take (Try.prog.cellsOf 3)) = some y1 := hf 1 _ rfl
  rw [cellsI] at g1
  have g2 : DataW.trod enc Try.prog w base (fun _ => true) held n 3 (([c0, c1, c2, c3, c4, c5].drop 2).take (Try.prog.cellsOf 3)) = some y2 := hf 2 _ rfl
  rw [cellsI] at g2
  have g3 : DataW.trod enc Try.prog w base (fun _ => true) held n 3 (([c0, c1, c2, c3, c4, c5].drop 3).take (Try.prog.cellsOf 3)) = some y3 := hf 3 _ rfl
  rw [cellsI] at g3
  have g4 : DataW.trod enc Try.prog w base (fun _ => true) held n 28 (([c0, c1, c2, c3, c4, c5].drop 4).take (Try.prog.cellsOf 28)) = some y4 := hf 4 _ rfl
  rw [cellsB] at g4
  have g5 : DataW.trod enc Try.prog w base (fun _ => true) held n 29 (([c0, c1, c2, c3, c4, c5].drop 5).take (Try.prog.cellsOf 29)) = some y5 := hf 5 _ rfl
  rw [cellsF] at g5
  simp only [List.drop_succ_cons, List.drop_zero, List.take_succ_cons, List.take_zero] at g0 g1 g2 g3 g4 g5
  obtain ⟨n0, e0, _, w0⟩ := DataW.trod_int Try.underlying3 g0
  obtain ⟨n1, e1, _, w1⟩ := DataW.trod_int Try.underlying3 g1
  obtain ⟨n2, e2, _, w2⟩ := DataW.trod_int Try.underlying3 g2
  obtain ⟨n3, e3, _, w3⟩ := DataW.trod_int Try.underlying3 g3
  have hmem : ∀ (j : Nat) (t : TypeId) (d : DataW H), [3, 3, 3, 3, 28, 29][j]? = some t → [y0.1, y1.1, y2.1, y3.1, y4.1, y5.1][j]? = some d → ∀ n ∈ d.weights Try.prog t, n ≤ reachBytes := fun j t d ht hd n hn => by
    refine hw n ?_
    simp only [DataW.weights, Try.underlying31]
    exact DataW.weights_mem_each ht hd n hn
  obtain ⟨zs, hzs⟩ := read_bytes g4 (hmem 4 28 y4.1 rfl rfl)
  have hk := read_flags1 g5
  simp at e0 e1 e2 e3
  subst e0 e1 e2 e3
  exact ⟨⟨n0, n1, n2, n3, zs, c4, c5⟩, rfl, hzs.1, hk⟩
theorem read_script {v : Value} {x : DataW H × List MemPlace} (h : DataW.trod enc Try.prog w base (fun _ => true) held fuel 22 [v] = some x) (hw : ∀ n ∈ x.1.weights Try.prog 22, n ≤ reachBytes) : ∃ os, ScriptAt w v os := by
  rcases Deep.open_slice Try.underlying22 h with ⟨hcs, _⟩ | ⟨a, len, cap, m, n, D, Pl, hcs, _, hl, hm, hmm, hx, hel⟩
  · simp at hcs
    exact ⟨[], .inl ⟨hcs, rfl⟩, by simp, fun o ho => by cases ho⟩
  · simp at hcs
    rw [if_pos rfl] at hmm
    subst hmm
    have hb := hw _ (by rw [hx]; simp only [DataW.weights, Try.underlying22]; exact List.mem_cons_self ..)
    rw [bytesO] at hb
    simp only [List.length_map, List.length_range, reachBytes] at hb
    obtain ⟨os, hol, hos⟩ := exists_list len (fun i (o : OpS) => (∀ j v, o.cells[j]? = some v → w.cell? (a.add (i * 6 + j)) = some v) ∧ o.ok w) (fun i hi => by
      obtain ⟨cs', h1, h2⟩ := hel i (by omega)
      rw [cellsO] at h1
      obtain ⟨o, ho1, ho2⟩ := read_op h2 (fun q hq => hw q (by
        rw [hx]
        simp only [DataW.weights, Try.underlying22]
        refine List.mem_cons_of_mem _ (List.mem_append_left _ (weightsAll_mem _ (D i) ?_ q hq))
        exact List.mem_map.2 ⟨i, List.mem_range.2 hi, rfl⟩))
      refine ⟨o, fun j v hv => ?_, ho2⟩
      rw [ho1] at hv
      rw [← Deep.add_add]
      exact (cells?_get h1).2 j v hv)
    refine ⟨os, .inr ⟨a, m, by rw [hol]; exact hcs, by omega, fun i hi => (hos i hi).1⟩, by omega, fun o ho => ?_⟩
    obtain ⟨i, hi, rfl⟩ := List.getElem_of_mem ho
    exact (hos i hi).2
end
end Go.Proofs.Ytpoakkdkibameaa
