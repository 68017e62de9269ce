/- How bytes, flags and scripts that come in lie in memory, out of the reading of the arguments. -/
import Derived.Test.YtaeghpfncfkgfaaRows
import Derived.Test.YtaeghpfncfkgfaaBase
import Derived.ProofKit
import Derived.SizedLaws
import Derived.Deep.Slices
import Derived.Deep.Grids
namespace Go.Proofs.Ytaeghpfncfkgfaa
open Go.RowKit Go.ChangeShapes Go.WideShapes
set_option linter.unusedVariables false

/-- A slice of k elements of size cells each, whose cells are f's. -/
def RowAt (W : World) (v : Value) (k size : Nat) (f : Nat → Value) : Prop :=
  (v = .slice none 0 0 ∧ k = 0) ∨ ∃ ad c, v = .slice (some ad) k c ∧ ∀ j, j < k * size → W.cell? (ad.add j) = some (f j)
theorem RowAt.frame {W W' : World} {v : Value} {k size : Nat} {f : Nat → Value} {bs : Nat → Prop} (h : RowAt W v k size f) (ho : Only bs W W') (hn : ∀ b, bs b → W.heap.size ≤ b) : RowAt W' v k size f := by
  rcases h with h | ⟨ad, c, hv, hc⟩
  · exact .inl h
  · exact .inr ⟨ad, c, hv, fun j hj => ho.cell (hc j hj) (fun e => by have := hn _ e; have := World.block_lt_of_cell? W _ (hc j hj); omega)⟩
theorem RowAt.at {W : World} {v : Value} {k size : Nat} {f : Nat → Value} (h : RowAt W v k size f) (hk : 0 < k * size) : ∃ g o c, v = .slice (some ⟨g, o, none⟩) k c ∧ (∀ j, j < k * size → W.cell? ⟨g, o + j, none⟩ = some (f j)) ∧ g < W.heap.size := by
  rcases h with ⟨_, h0⟩ | ⟨ad, c, hv, hc⟩
  · subst h0; simp at hk
  · have h0 := hc 0 hk
    have e0 : ad.add 0 = ad := by simp [Addr.add]
    rw [e0] at h0
    obtain ⟨g, o, spot⟩ := ad
    have hs : spot = none := World.cell?_spot h0
    subst hs
    exact ⟨g, o, c, hv, fun j hj => by rw [← Addr.add_mid]; exact hc j hj, World.block_lt_of_cell? W _ h0⟩

def BytesAt (W : World) (v : Value) (zs : List Int) : Prop := RowAt W v zs.length 1 (fun j => .int .u8 (zs.getD j 0)) ∧ zs.length ≤ 140737488351232 ∧ ∀ z ∈ zs, 0 ≤ z ∧ z ≤ 255
def FlagsIn (W : World) (v : Value) (ks : List Bool) : Prop := RowAt W v ks.length 1 (fun j => .bool (ks.getD j false)) ∧ ks.length ≤ 140737488351232

/-- A call of a script. -/
structure OpD where
  kind : Int
  s : Int
  n : Int
  cut : Int
  odd : Bool
  b : List Int
  keep : List Bool
  vb : Value
  vk : Value
def OpD.cells (o : OpD) : List Value := [.int .i64 o.kind, .int .i64 o.s, .int .i64 o.n, .int .i64 o.cut, .bool o.odd, o.vb, o.vk]
def OpD.ok (W : World) (o : OpD) : Prop := BytesAt W o.vb o.b ∧ FlagsIn W o.vk o.keep ∧ (Lit.int .i64 o.kind).wf = true ∧ (Lit.int .i64 o.s).wf = true ∧ (Lit.int .i64 o.n).wf = true ∧ (Lit.int .i64 o.cut).wf = true
def ScriptAt (W : World) (v : Value) (os : List OpD) : Prop :=
  ((v = .slice none 0 0 ∧ os = []) ∨ ∃ ad c, v = .slice (some ad) os.length c ∧ ∀ i (h : i < os.length) j v, (os[i]).cells[j]? = some v → W.cell? (ad.add (i * 7 + j)) = some v) ∧ os.length * 88 ≤ 140737488351232 ∧ ∀ o ∈ os, o.ok W

section
variable {H : Type} {enc : TypeId × Value → H} {w : World} {base fuel : Nat} {held : Bool}
theorem cells5 : Try.prog.cellsOf 5 = 1 := by kernel_rfl
theorem cells4 : Try.prog.cellsOf 4 = 1 := by kernel_rfl
theorem cells34 : Try.prog.cellsOf 34 = 7 := by kernel_rfl
theorem cells3 : Try.prog.cellsOf 3 = 1 := by kernel_rfl
theorem cells31 : Try.prog.cellsOf 31 = 1 := by kernel_rfl
theorem cells32 : Try.prog.cellsOf 32 = 1 := by kernel_rfl
theorem bytes5 : Try.prog.bytesOf 5 = 1 := by kernel_rfl
theorem bytes4 : Try.prog.bytesOf 4 = 1 := by kernel_rfl
theorem bytes34 : Try.prog.bytesOf 34 = 88 := by kernel_rfl

theorem u8_bounds {z : Int} (h : (Lit.int .u8 z).wf = true) : 0 ≤ z ∧ z ≤ 255 := by
  have h' : IntKind.u8.min ≤ z ∧ z ≤ IntKind.u8.max := by simpa [Lit.wf] using h
  exact h'
theorem read_bytes {v : Value} {x : DataW H × List MemPlace} (h : DataW.trod enc Try.prog w base (fun _ => true) held fuel 31 [v] = some x) (hw : ∀ n ∈ x.1.weights Try.prog 31, n ≤ reachBytes) : ∃ zs, BytesAt w v zs := by
  rcases open_ints Try.underlying31 Try.underlying5 cells5 h with ⟨hcs, _⟩ | ⟨a, len, cap, zs, hcs, _, hl, hm, hz, hx, hcell, hwz⟩
  · simp at hcs
    exact ⟨[], .inl ⟨hcs, rfl⟩, Nat.zero_le _, fun _ h => by cases h⟩
  · simp at hcs
    rw [if_pos rfl] at hz
    have hb := hw _ (by rw [hx]; simp only [DataW.weights, Try.underlying31]; exact List.mem_cons_self ..)
    rw [bytes5] at hb
    simp only [lits, List.length_map, List.length_take, List.length_drop, reachBytes] at hb
    have hlen : (zs.take len).length = len := by rw [List.length_take]; omega
    refine ⟨zs.take len, .inr ⟨a, cap, by rw [hlen]; exact hcs, fun j hj => ?_⟩, by rw [hlen]; omega, fun z hz' => u8_bounds (hwz z (List.mem_of_mem_take hz'))⟩
    rw [hlen] at hj
    rw [hcell j (by omega)]
    have : (zs.take len).getD j 0 = zs.getD j 0 := by simp only [List.getD]; rw [List.getElem?_take_of_lt (by omega)]
    simp only [this]
theorem read_flags {v : Value} {x : DataW H × List MemPlace} (h : DataW.trod enc Try.prog w base (fun _ => true) held fuel 32 [v] = some x) (hw : ∀ n ∈ x.1.weights Try.prog 32, n ≤ reachBytes) : ∃ ks, FlagsIn w v ks := by
  rcases Deep.open_bools Try.underlying32 Try.underlying4 cells4 h with ⟨hcs, _⟩ | ⟨a, len, cap, B, hcs, _, hl, hm, hx, hcell⟩
  · simp at hcs
    exact ⟨[], .inl ⟨hcs, rfl⟩, Nat.zero_le _⟩
  · simp at hcs
    have hb := hw _ (by rw [hx]; simp only [Deep.boolRow, DataW.weights, Try.underlying32]; exact List.mem_cons_self ..)
    rw [bytes4] at hb
    simp only [List.length_map, List.length_range, reachBytes] at hb
    refine ⟨(List.range len).map B, .inr ⟨a, cap, by simpa using hcs, fun j hj => ?_⟩, by simp; omega⟩
    simp at hj
    rw [hcell j (by omega)]
    simp [hj]
theorem exists_list {α : Type} : ∀ (len : Nat) (p : Nat → α → Prop), (∀ i, i < len → ∃ x, p i x) → ∃ l : List α, l.length = len ∧ ∀ i (h : i < l.length), p i l[i]
  | 0, _, _ => ⟨[], rfl, fun i h => by simp at h⟩
  | n + 1, p, hp => by
    obtain ⟨l, hl, hq⟩ := exists_list n p (fun i hi => hp i (by omega))
    obtain ⟨x, hx⟩ := hp n (by omega)
    refine ⟨l ++ [x], by simp [hl], fun i hi => ?_⟩
    by_cases e : i < l.length
    · rw [List.getElem_append_left e]; exact hq i e
    · have : i = l.length := by simp at hi; omega
      subst this
      rw [List.getElem_append_right (by omega)]
      simpa [hl] using hx
theorem weightsAll_mem {P : Program} {e : TypeId} : ∀ (l : List (DataW H)) (d : DataW H), d ∈ l → ∀ n ∈ d.weights P e, n ∈ DataW.weightsAll P e l
  | d0 :: r, d, hd, n, hn => by
    simp only [DataW.weightsAll, List.mem_append]
    rcases List.mem_cons.1 hd with rfl | hd
    · exact .inl hn
    · exact .inr (weightsAll_mem r d hd n hn)
theorem seven {α : Type} : ∀ (l : List α), l.length = 7 → ∃ a b c d e f g, l = [a, b, c, d, e, f, g]
  | [a, b, c, d, e, f, g], _ => ⟨a, b, c, d, e, f, g, rfl⟩

theorem read_op {cs : List Value} {x : DataW H × List MemPlace} (h : DataW.trod enc Try.prog w base (fun _ => true) held fuel 34 cs = some x) (hw : ∀ n ∈ x.1.weights Try.prog 34, n ≤ reachBytes) : ∃ o : OpD, o.cells = cs ∧ o.ok w := by
  obtain ⟨xs, n, _, rfl, hl, hxl, hf⟩ := DataW.trod_struct Try.underlying34 h
  rw [cells34] at hl
  obtain ⟨c0, c1, c2, c3, c4, c5, c6, rfl⟩ := seven cs hl
  obtain ⟨y0, y1, y2, y3, y4, y5, y6, rfl⟩ := seven xs hxl
  have g0 : DataW.trod enc Try.prog w base (fun _ => true) held n 3 (([c0, c1, c2, c3, c4, c5, c6].drop 0).take (Try.prog.cellsOf 3)) = some y0 := hf 0 _ rfl
  rw [cells3] at g0
  have g1 : DataW.trod enc Try.prog w base (fun _ => true) held n 3 (([c0, c1, c2, c3, c4, c5, c6].drop 1).take (Try.prog.cellsOf 3)) = some y1 := hf 1 _ rfl
  rw [cells3] at g1
  have g2 : DataW.trod enc Try.prog w base (fun _ => true) held n 3 (([c0, c1, c2, c3, c4, c5, c6].drop 2).take (Try.prog.cellsOf 3)) = some y2 := hf 2 _ rfl
  rw [cells3] at g2
  have g3 : DataW.trod enc Try.prog w base (fun _ => true) held n 3 (([c0, c1, c2, c3, c4, c5, c6].drop 3).take (Try.prog.cellsOf 3)) = some y3 := hf 3 _ rfl
  rw [cells3] at g3
  have g4 : DataW.trod enc Try.prog w base (fun _ => true) held n 4 (([c0, c1, c2, c3, c4, c5, c6].drop 4).take (Try.prog.cellsOf 4)) = some y4 := hf 4 _ rfl
  rw [cells4] at g4
  have g5 : DataW.trod enc Try.prog w base (fun _ => true) held n 31 (([c0, c1, c2, c3, c4, c5, c6].drop 5).take (Try.prog.cellsOf 31)) = some y5 := hf 5 _ rfl
  rw [cells31] at g5
  have g6 : DataW.trod enc Try.prog w base (fun _ => true) held n 32 (([c0, c1, c2, c3, c4, c5, c6].drop 6).take (Try.prog.cellsOf 32)) = some y6 := hf 6 _ rfl
  rw [cells32] at g6
  simp only [List.drop_succ_cons, List.drop_zero, List.take_succ_cons, List.take_zero] at g0 g1 g2 g3 g4 g5 g6
  obtain ⟨n0, e0, _, w0⟩ := DataW.trod_int Try.underlying3 g0
  obtain ⟨n1, e1, _, w1⟩ := DataW.trod_int Try.underlying3 g1
  obtain ⟨n2, e2, _, w2⟩ := DataW.trod_int Try.underlying3 g2
  obtain ⟨n3, e3, _, w3⟩ := DataW.trod_int Try.underlying3 g3
  obtain ⟨b4, e4, _⟩ := DataW.trod_bool Try.underlying4 g4
  have hmem : ∀ (j : Nat) (t : TypeId) (d : DataW H), [3, 3, 3, 3, 4, 31, 32][j]? = some t → [y0.1, y1.1, y2.1, y3.1, y4.1, y5.1, y6.1][j]? = some d → ∀ n ∈ d.weights Try.prog t, n ≤ reachBytes := fun j t d ht hd n hn => by
    refine hw n ?_
    simp only [DataW.weights, Try.underlying34]
    exact DataW.weights_mem_each ht hd n hn
  obtain ⟨zs, hzs⟩ := read_bytes g5 (hmem 5 31 y5.1 rfl rfl)
  obtain ⟨ks, hks⟩ := read_flags g6 (hmem 6 32 y6.1 rfl rfl)
  simp at e0 e1 e2 e3 e4
  subst e0 e1 e2 e3 e4
  exact ⟨⟨n0, n1, n2, n3, b4, zs, ks, c5, c6⟩, rfl, hzs, hks, w0, w1, w2, w3⟩

theorem cells?_get {a : Addr} {n : Nat} {cs : List Value} (h : w.cells? base a n = some cs) : cs.length = n ∧ ∀ j v, cs[j]? = some v → w.cell? (a.add j) = some v := by
  unfold World.cells? at h
  split at h
  · refine ⟨by simpa using mapM_some_length h, fun j v hv => ?_⟩
    have hj : j < n := by
      have := (List.getElem?_eq_some_iff.1 hv).1
      have hl : cs.length = n := by simpa using mapM_some_length h
      omega
    have := mapM_some_get h j j (by simp [hj])
    rw [this]; exact hv
  · cases h

theorem read_script {v : Value} {x : DataW H × List MemPlace} (h : DataW.trod enc Try.prog w base (fun _ => true) held fuel 22 [v] = some x) (hw : ∀ n ∈ x.1.weights Try.prog 22, n ≤ reachBytes) : ∃ os, ScriptAt w v os := by
  rcases Deep.open_slice Try.underlying22 h with ⟨hcs, _⟩ | ⟨a, len, cap, m, n, D, Pl, hcs, _, hl, hm, hmm, hx, hel⟩
  · simp at hcs
    exact ⟨[], .inl ⟨hcs, rfl⟩, by simp, fun o ho => by cases ho⟩
  · simp at hcs
    rw [if_pos rfl] at hmm
    subst hmm
    have hb := hw _ (by rw [hx]; simp only [DataW.weights, Try.underlying22]; exact List.mem_cons_self ..)
    rw [bytes34] at hb
    simp only [List.length_map, List.length_range, reachBytes] at hb
    obtain ⟨os, hol, hos⟩ := exists_list len (fun i (o : OpD) => (∀ j v, o.cells[j]? = some v → w.cell? (a.add (i * 7 + j)) = some v) ∧ o.ok w) (fun i hi => by
      obtain ⟨cs', h1, h2⟩ := hel i (by omega)
      rw [cells34] at h1
      obtain ⟨o, ho1, ho2⟩ := read_op h2 (fun q hq => hw q (by
        rw [hx]
        simp only [DataW.weights, Try.underlying22]
        refine List.mem_cons_of_mem _ (List.mem_append_left _ (weightsAll_mem _ (D i) ?_ q hq))
        exact List.mem_map.2 ⟨i, List.mem_range.2 hi, rfl⟩))
      refine ⟨o, fun j v hv => ?_, ho2⟩
      rw [ho1] at hv
      rw [← Deep.add_add]
      exact (cells?_get h1).2 j v hv)
    refine ⟨os, .inr ⟨a, m, by rw [hol]; exact hcs, fun i hi => (hos i hi).1⟩, by omega, fun o ho => ?_⟩
    obtain ⟨i, hi, rfl⟩ := List.getElem_of_mem ho
    exact (hos i hi).2
end
end Go.Proofs.Ytaeghpfncfkgfaa
