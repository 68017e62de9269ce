import Derived.Test.YtlcglapcmdpkfaaGreatG37
import Derived.Test.YtlcglapcmdpkfaaGreatIn4
import Derived.Test.YtlcglapcmdpkfaaGreatRows
namespace Go.Proofs.YtlcglapcmdpkfaaGreat
open Go.RowKit Go.ChangeShapes Go.WideShapes
set_option linter.unusedVariables false
structure OpK where
 kind : Int
 i : Int
 n : Int
 cut : Int
 b : List Nat
 ks : List Bool
 vb : Value
 vk : Value
def OpK.cells (o : OpK) : List Value := [.int .i64 o.kind, .int .i64 o.i, .int .i64 o.n, .int .i64 o.cut, o.vb, o.vk]
def OpK.ok (W : World) (o : OpK) : Prop := BytesAt W o.vb o.b ∧ FlagsIn W o.vk o.ks ∧ o.n ≤ 9223372036854775807
theorem OpK.ok.frame {W W' : World} {o : OpK} (h : o.ok W) (ho : Only (fun _ => False) W W') : o.ok W' := ⟨h.1.frame ho, ⟨h.2.1.1.frame ho (fun _ g => g.elim), h.2.1.2⟩, h.2.2⟩
def ScriptK (W : World) (v : Value) (os : List OpK) : Prop :=
 ((v = .slice none 0 0 ∧ os = []) ∨ ∃ ad c, v = .slice (some ad) os.length c ∧ os.length ≤ c ∧ ∀ i (h : i < os.length) j v, (os[i]).cells[j]? = some v → W.cell? (ad.add (i * 6 + j)) = some v) ∧ os.length ≤ 140737488351232 ∧ ∀ o ∈ os, o.ok W
theorem ScriptK.get {W : World} {v : Value} {os : List OpK} (h : ScriptK W v os) (i : Nat) (hi : i < os.length) : ∃ g o c, v = .slice (some ⟨g, o, none⟩) os.length c ∧ W.rangeAt g (o + i * 6) (os[i]).cells ∧ os.length ≤ c := by
 rcases h.1 with ⟨_, h0⟩ | ⟨ad, c, hv, hc⟩
 ·subst h0; simp at hi
 ·obtain ⟨hcap, hc⟩ := hc
  have h0 := hc i hi 0 _ rfl
  have hsp := World.cell?_spot h0
  obtain ⟨g, o, spot⟩ := ad
  have hs : spot = none := by
   by_cases e : i * 6 + 0 = 0
   ·simpa [Addr.add, e] using hsp
   ·have := hc 0 (by omega) 0 _ rfl
    have h2 := World.cell?_spot this
    simpa [Addr.add] using h2
  subst hs
  exact ⟨g, o, c, hv, fun j u hu => by have := hc i hi j u hu; rw [Addr.add_mid] at this; rw [Nat.add_assoc]; exact this, hcap⟩
theorem ScriptK.form {W : World} {v : Value} {os : List OpK} (h : ScriptK W v os) : ∃ a c, v = .slice a os.length c := by
 rcases h.1 with ⟨h1, h2⟩ | ⟨ad, c, hv, _⟩
 ·exact ⟨none, 0, by rw [h1, h2]; rfl⟩
 ·exact ⟨_, _, hv⟩
section
variable {H : Type} {enc : TypeId × Value → H} {w : World} {base fuel : Nat} {held : Bool}
theorem bulk_pos (d : DataW H) : 0 < Rows.uptoBulk d := by
 rcases d with l | _ | _ | _ | _ | _ | _ | _ <;> try simp [Rows.uptoBulk]
 cases l <;> simp [Rows.uptoBulk]
theorem bulk_len : ∀ (l : List (DataW H)), l.length ≤ Rows.uptoBulkAll l
 | [] => by simp [Rows.uptoBulkAll]
 | d :: r => by
   have := bulk_len r
   have := bulk_pos d
   simp only [Rows.uptoBulkAll, List.length_cons]
   omega
theorem cells4 : Tryz.prog.cellsOf 4 = 1 := by kernel_rfl
theorem bytes4 : Tryz.prog.bytesOf 4 = 1 := by kernel_rfl
theorem read_flags {v : Value} {x : DataW H × List MemPlace} (h : DataW.trod enc Tryz.prog w base (fun _ => true) held fuel 38 [v] = some x) (hw : ∀ n ∈ x.1.weights Tryz.prog 38, n ≤ reachBytes) : ∃ ks, FlagsIn w v ks := by
 rcases Deep.open_bools Tryz.underlying38 Tryz.underlying4 cells4 h with ⟨hcs, _⟩ | ⟨a, len, cap, B, hcs, _, hl, hm, hx, hcell⟩
 ·simp at hcs
  exact ⟨[], .inl ⟨hcs, rfl⟩, Nat.zero_le _⟩
 ·simp at hcs
  have hb := hw _ (by rw [hx]; simp only [Deep.boolRow, DataW.weights, Tryz.underlying38]; exact List.mem_cons_self ..)
  rw [bytes4] at hb
  simp only [List.length_map, List.length_range, reachBytes] at hb
  refine ⟨(List.range len).map B, .inr ⟨a, cap, by simpa using hcs, by simpa using hl, fun j hj => ?_⟩, by simp; omega⟩
  simp at hj
  rw [hcell j (by omega)]
  simp [hj]
theorem read_opK {cs : List Value} {x : DataW H × List MemPlace} (h : DataW.trod enc Tryz.prog w base (fun _ => true) held fuel 40 cs = some x) (hw : ∀ n ∈ x.1.weights Tryz.prog 40, n ≤ reachBytes) : ∃ o : OpK, o.cells = cs ∧ o.ok w := by
 obtain ⟨xs, n, _, rfl, hl, hxl, hf⟩ := DataW.trod_struct Tryz.underlying40 h
 rw [cellsO] at hl
 obtain ⟨c0, c1, c2, c3, c4, c5, rfl⟩ := six cs hl
 obtain ⟨y0, y1, y2, y3, y4, y5, rfl⟩ := six xs hxl
 have g0 : DataW.trod enc Tryz.prog w base (fun _ => true) held n 3 (([c0, c1, c2, c3, c4, c5].drop 0).take (Tryz.prog.cellsOf 3)) = some y0 := hf 0 _ rfl
 rw [cellsI] at g0
 have g1 : DataW.trod enc Tryz.prog w base (fun _ => true) held n 3 (([c0, c1, c2, c3, c4, c5].drop 1).take (Tryz.prog.cellsOf 3)) = some y1 := hf 1 _ rfl
 rw [cellsI] at g1
 have g2 : DataW.trod enc Tryz.prog w base (fun _ => true) held n 3 (([c0, c1, c2, c3, c4, c5].drop 2).take (Tryz.prog.cellsOf 3)) = some y2 := hf 2 _ rfl
 rw [cellsI] at g2
 have g3 : DataW.trod enc Tryz.prog w base (fun _ => true) held n 3 (([c0, c1, c2, c3, c4, c5].drop 3).take (Tryz.prog.cellsOf 3)) = some y3 := hf 3 _ rfl
 rw [cellsI] at g3
 have g4 : DataW.trod enc Tryz.prog w base (fun _ => true) held n 37 (([c0, c1, c2, c3, c4, c5].drop 4).take (Tryz.prog.cellsOf 37)) = some y4 := hf 4 _ rfl
 rw [cellsB] at g4
 have g5 : DataW.trod enc Tryz.prog w base (fun _ => true) held n 38 (([c0, c1, c2, c3, c4, c5].drop 5).take (Tryz.prog.cellsOf 38)) = some y5 := hf 5 _ rfl
 rw [cellsF] at g5
 simp only [List.drop_succ_cons, List.drop_zero, List.take_succ_cons, List.take_zero] at g0 g1 g2 g3 g4 g5
 obtain ⟨n0, e0, _, w0⟩ := DataW.trod_int Tryz.underlying3 g0
 obtain ⟨n1, e1, _, w1⟩ := DataW.trod_int Tryz.underlying3 g1
 obtain ⟨n2, e2, _, w2⟩ := DataW.trod_int Tryz.underlying3 g2
 obtain ⟨n3, e3, _, w3⟩ := DataW.trod_int Tryz.underlying3 g3
 have hmem : ∀ (j : Nat) (t : TypeId) (d : DataW H), [3, 3, 3, 3, 37, 38][j]? = some t → [y0.1, y1.1, y2.1, y3.1, y4.1, y5.1][j]? = some d → ∀ n ∈ d.weights Tryz.prog t, n ≤ reachBytes := fun j t d ht hd n hn => by
  refine hw n ?_
  simp only [DataW.weights, Tryz.underlying40]
  exact DataW.weights_mem_each ht hd n hn
 obtain ⟨zs, hzs⟩ := read_bytes g4 (hmem 4 37 y4.1 rfl rfl)
 obtain ⟨ks, hks⟩ := read_flags g5 (hmem 5 38 y5.1 rfl rfl)
 have hb2 := (bounds_i64 w2).2
 simp at e0 e1 e2 e3
 subst e0 e1 e2 e3
 exact ⟨⟨n0, n1, n2, n3, zs, ks, c4, c5⟩, rfl, hzs.1, hks, hb2⟩
theorem read_scriptB {v : Value} {x : DataW H × List MemPlace} (h : DataW.trod enc Tryz.prog w base (fun _ => true) held fuel 22 [v] = some x) (hw : ∀ n ∈ x.1.weights Tryz.prog 22, n ≤ reachBytes) : ∃ os, ScriptK w v os ∧ os.length + 1 ≤ Rows.uptoBulk x.1 := by
 rcases Deep.open_slice Tryz.underlying22 h with ⟨hcs, _⟩ | ⟨a, len, cap, m, n, D, Pl, hcs, _, hl, hm, hmm, hx, hel⟩
 ·simp at hcs
  exact ⟨[], ⟨.inl ⟨hcs, rfl⟩, by simp, fun o ho => by cases ho⟩, bulk_pos x.1⟩
 ·simp at hcs
  rw [if_pos rfl] at hmm
  subst hmm
  have hb := hw _ (by rw [hx]; simp only [DataW.weights, Tryz.underlying22]; exact List.mem_cons_self ..)
  rw [bytesO] at hb
  simp only [List.length_map, List.length_range, reachBytes] at hb
  obtain ⟨os, hol, hos⟩ := exists_list len (fun i (o : OpK) => (∀ j v, o.cells[j]? = some v → w.cell? (a.add (i * 6 + j)) = some v) ∧ o.ok w) (fun i hi => by
   obtain ⟨cs', h1, h2⟩ := hel i (by omega)
   rw [cellsO] at h1
   obtain ⟨o, ho1, ho2⟩ := read_opK h2 (fun q hq => hw q (by
    rw [hx]
    simp only [DataW.weights, Tryz.underlying22]
    refine List.mem_cons_of_mem _ (List.mem_append_left _ (weightsAll_mem _ (D i) ?_ q hq))
    exact List.mem_map.2 ⟨i, List.mem_range.2 hi, rfl⟩))
   refine ⟨o, fun j v hv => ?_, ho2⟩
   rw [ho1] at hv
   rw [← Deep.add_add]
   exact (cells?_get h1).2 j v hv)
  refine ⟨os, ⟨.inr ⟨a, m, by rw [hol]; exact hcs, by omega, fun i hi => (hos i hi).1⟩, by omega, fun o ho => ?_⟩, ?_⟩
  ·obtain ⟨i, hi, rfl⟩ := List.getElem_of_mem ho
   exact (hos i hi).2
  ·rw [hx, hol]
   simp only [Rows.uptoBulk]
   have e : ∀ l : List (DataW H), l.length = len → len ≤ Rows.uptoBulkAll l := fun l h => h ▸ bulk_len l
   have := e ((List.range len).map D) (by simp)
   omega
end
end Go.Proofs.YtlcglapcmdpkfaaGreat
