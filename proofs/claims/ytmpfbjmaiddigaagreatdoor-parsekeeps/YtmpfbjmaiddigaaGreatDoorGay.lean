/- How a tree that is handed in lies in memory. Trees that come in, read with the weights of the first form. Rows of trees that come in, read with the weights of the first form. -/
import Derived.Test.YtmpfbjmaiddigaaGreatDoorGax
import Derived.Test.YtmpfbjmaiddigaaGreatDoorGaf
import Derived.Deep.Slices
import Derived.Deep.MidRow
import Derived.ChangeArms
import Derived.ChangeMaps5
namespace Go.Proofs.YtmpfbjmaiddigaaGreatDoor
open Go.RowKit Go.ChangeShapes Go.WideShapes
set_option linter.unusedVariables false
set_option linter.unusedSimpArgs false
theorem vfour {α : Type} : ∀ (l : List α), l.length = 4 → ∃ a b c d, l = [a, b, c, d]
  | [a, b, c, d], _ => ⟨a, b, c, d, rfl⟩
theorem vexists_list {α : Type} : ∀ (len : Nat) (p : Nat → α → Prop), (∀ i, i < len → ∃ x, p i x) → ∃ l : List α, l.length = len ∧ ∀ i (h : i < l.length), p i l[i]
  | 0, _, _ => ⟨[], rfl, fun i h => by simp at h⟩
  | n + 1, p, hp => by
    obtain ⟨l, hl, hq⟩ := vexists_list n p (fun i hi => hp i (by omega))
    obtain ⟨x, hx⟩ := hp n (by omega)
    refine ⟨l ++ [x], by simp [hl], fun i hi => ?_⟩
    by_cases e : i < l.length
    · rw [List.getElem_append_left e]; exact hq i e
    · have : i = l.length := by simp at hi; omega
      subst this
      rw [List.getElem_append_right (by omega)]
      simpa [hl] using hx
theorem vuniform (q : Nat → Nat → Prop) (hm : ∀ i d d', d ≤ d' → q i d → q i d') : ∀ len, (∀ i, i < len → ∃ d, q i d) → ∃ D, ∀ i, i < len → q i D
  | 0, _ => ⟨0, fun i h => by omega⟩
  | n + 1, h => by
    obtain ⟨D, hD⟩ := vuniform q hm n (fun i hi => h i (by omega))
    obtain ⟨d, hd⟩ := h n (by omega)
    refine ⟨max D d, fun i hi => ?_⟩
    by_cases e : i < n
    · exact hm i D _ (by omega) (hD i e)
    · obtain rfl : i = n := by omega
      exact hm i d _ (by omega) hd
theorem vcellsI : Tryz.prog.cellsOf 3 = 1 := by kernel_rfl
theorem vcellsN : Tryz.prog.cellsOf 2 = 1 := by kernel_rfl
theorem vcellsS : Tryz.prog.cellsOf 9 = 1 := by kernel_rfl
theorem vcellsL : Tryz.prog.cellsOf 22 = 1 := by kernel_rfl
theorem vcellsV : Tryz.prog.cellsOf 54 = 4 := by kernel_rfl
section
variable {H : Type} {enc : TypeId × Value → H} {w : World} {base : Nat} {held : Bool}
theorem vcells_get {a : Addr} {n : Nat} {cs : List Value} (h : w.cells? base a n = some cs) : cs.length = n ∧ ∀ j v, cs[j]? = some v → w.cell? (a.add j) = some v := by
  unfold World.cells? at h
  split at h
  · refine ⟨by simpa using mapM_some_length h, fun j v hv => ?_⟩
    have hj : j < n := by
      have := (List.getElem?_eq_some_iff.1 hv).1
      have hl : cs.length = n := by simpa using mapM_some_length h
      omega
    have := mapM_some_get h j j (by simp [hj])
    rw [this]; exact hv
  · cases h
theorem vbulk_mem : ∀ (l : List (DataW H)) (d : DataW H), d ∈ l → Rows.uptoBulk d ≤ Rows.uptoBulkAll l
  | [], _, h => by cases h
  | a :: r, d, h => by
    simp only [Rows.uptoBulkAll]
    rcases List.mem_cons.1 h with rfl | h
    · omega
    · have := vbulk_mem r d h
      omega
theorem vbulk_pos (d : DataW H) : 0 < Rows.uptoBulk d := by
  rcases d with l | _ | _ | _ | _ | _ | _ | _ <;> try simp [Rows.uptoBulk]
  cases l <;> simp [Rows.uptoBulk]
theorem vbulk_len : ∀ (l : List (DataW H)), l.length ≤ Rows.uptoBulkAll l
  | [] => by simp [Rows.uptoBulkAll]
  | d :: r => by
    have := vbulk_len r
    have := vbulk_pos d
    simp only [Rows.uptoBulkAll, List.length_cons]
    omega
theorem vbounds {n : Int} (h : (Lit.int .i64 n).wf = true) : -9223372036854775808 ≤ n ∧ n ≤ 9223372036854775807 := by
  have := h
  simp only [Lit.wf, Bool.and_eq_true, decide_eq_true_eq] at this
  exact this
theorem read_v (fuel : Nat) : ∀ {cs : List Value} {x : DataW H × List MemPlace}, DataW.trod enc Tryz.prog w base (fun _ => true) held fuel 54 cs = some x → Rows.uptoBulk x.1 ≤ 1048576 → ∃ (t : Vt) (lv : Value) (d : Nat), cs = [.int .i64 t.k, .int .i64 t.n, .string t.s, lv] ∧ SmT d t ∧ VsAt w (fun _ => True) d t.l lv := by
  induction fuel using Nat.strongRecOn with
  | ind fuel ih =>
  intro cs x h hb
  obtain ⟨xs, n, hn, rfl, hl, hxl, hf⟩ := DataW.trod_struct Tryz.underlying54 h
  rw [vcellsV] at hl
  obtain ⟨c0, c1, c2, c3, rfl⟩ := vfour cs hl
  obtain ⟨y0, y1, y2, y3, rfl⟩ := vfour xs hxl
  have g0 : DataW.trod enc Tryz.prog w base (fun _ => true) held n 3 (([c0, c1, c2, c3].drop 0).take (Tryz.prog.cellsOf 3)) = some y0 := hf 0 _ rfl
  have g1 : DataW.trod enc Tryz.prog w base (fun _ => true) held n 2 (([c0, c1, c2, c3].drop 1).take (Tryz.prog.cellsOf 2)) = some y1 := hf 1 _ rfl
  have g2 : DataW.trod enc Tryz.prog w base (fun _ => true) held n 9 (([c0, c1, c2, c3].drop 2).take (Tryz.prog.cellsOf 9)) = some y2 := hf 2 _ rfl
  have g3 : DataW.trod enc Tryz.prog w base (fun _ => true) held n 22 (([c0, c1, c2, c3].drop 3).take (Tryz.prog.cellsOf 22)) = some y3 := hf 3 _ rfl
  rw [vcellsI] at g0
  rw [vcellsN] at g1
  rw [vcellsS] at g2
  rw [vcellsL] at g3
  simp only [List.drop_succ_cons, List.drop_zero, List.take_succ_cons, List.take_zero] at g0 g1 g2 g3
  obtain ⟨n0, e0, _, w0⟩ := DataW.trod_int Tryz.underlying3 g0
  obtain ⟨n1, e1, _, w1⟩ := DataW.trod_int Tryz.underlying2 g1
  obtain ⟨s, e2, hs2, _⟩ := DataW.trod_string Tryz.underlying9 g2
  simp only [List.cons.injEq, and_true] at e0 e1 e2
  subst e0 e1 e2
  simp only [List.map_cons, List.map_nil, Rows.uptoBulk, Rows.uptoBulkAll] at hb
  have hs : s.size ≤ 1048576 := by
    rw [hs2] at hb
    simp only [Rows.uptoBulk] at hb
    have : s.data.toList.length = s.size := Array.length_toList
    omega
  rcases DataW.trod_slice Tryz.underlying22 g3 with ⟨hcs, _⟩ | ⟨a, len, cap, elems, rest, m, hm, hcs, hx, _, hlc, _, hel, hget, _, _⟩
  · simp only [List.cons.injEq, and_true] at hcs
    subst hcs
    exact ⟨⟨n0, n1, s, []⟩, _, 1, rfl, ⟨(by dsimp only; omega), Nat.zero_le _, vbounds w0, vbounds w1, fun x hx => by cases hx⟩, none, 0, rfl, Nat.zero_le _, fun i x hx => by simp at hx⟩
  · simp only [List.cons.injEq, and_true] at hcs
    subst hcs
    have hb3 : Rows.uptoBulkAll (elems.map (·.1)) ≤ 1048576 := by
      rw [hx] at hb
      simp only [Rows.uptoBulk] at hb
      omega
    have hlen : len ≤ 1048576 := by
      have := vbulk_len (elems.map (·.1))
      simp at this
      omega
    obtain ⟨ts, htl, hts⟩ := vexists_list len (fun i (t : Vt) => ∃ lv d, (∀ j v, ([.int .i64 t.k, .int .i64 t.n, .string t.s, lv] : List Value)[j]? = some v → w.cell? (a.add (i * 4 + j)) = some v) ∧ SmT d t ∧ VsAt w (fun _ => True) d t.l lv) (fun i hi => by
      have h1 := hget i hi
      rw [vcellsV] at h1
      have hie : i < elems.length := by omega
      rw [List.getElem?_eq_getElem hie] at h1
      obtain ⟨cs', h2, h3⟩ := Option.bind_eq_some_iff.1 h1
      have hbi : Rows.uptoBulk (elems[i]).1 ≤ 1048576 := by
        have := vbulk_mem (elems.map (·.1)) (elems[i]).1 (List.mem_map.2 ⟨_, List.getElem_mem hie, rfl⟩)
        omega
      obtain ⟨t, lv, d, hc, q1, q2⟩ := ih m (by omega) h3 hbi
      refine ⟨t, lv, d, fun j v hv => ?_, q1, q2⟩
      rw [← hc] at hv
      rw [← Deep.add_add]
      exact (vcells_get h2).2 j v hv)
    obtain ⟨D, hD⟩ := vuniform (fun i d => ∀ (h : i < ts.length), ∃ lv, (∀ j v, ([.int .i64 ts[i].k, .int .i64 ts[i].n, .string ts[i].s, lv] : List Value)[j]? = some v → w.cell? (a.add (i * 4 + j)) = some v) ∧ SmT d ts[i] ∧ VsAt w (fun _ => True) d ts[i].l lv) (fun i d d' hd hq h => by
      obtain ⟨lv, q1, q2, q3⟩ := hq h
      exact ⟨lv, q1, q2.mono hd, q3.step (fun _ g => g) (fun _ _ _ g => g) hd⟩) ts.length (fun i hi => by
      obtain ⟨lv, d, q1, q2, q3⟩ := hts i hi
      exact ⟨d, fun _ => ⟨lv, q1, q2, q3⟩⟩)
    refine ⟨⟨n0, n1, s, ts⟩, _, D + 1, rfl, ⟨(by dsimp only; omega), by dsimp only; omega, vbounds w0, vbounds w1, fun x hx => ?_⟩, some a, cap, by dsimp only; rw [htl], by dsimp only; omega, fun i x hx => ?_⟩
    · obtain ⟨i, hi, rfl⟩ := List.getElem_of_mem hx
      obtain ⟨lv, q1, q2, q3⟩ := hD i hi hi
      exact q2
    · dsimp only at hx
      obtain ⟨hi, rfl⟩ := List.getElem?_eq_some_iff.1 hx
      obtain ⟨lv, q1, q2, q3⟩ := hD i hi hi
      have p0 := q1 0 _ rfl
      have p1 := q1 1 _ rfl
      have p2 := q1 2 _ rfl
      have p3 := q1 3 _ rfl
      have h0 : 0 < ts.length := by omega
      obtain ⟨lv0, z1, _, _⟩ := hD 0 h0 h0
      have hsp := World.cell?_spot (z1 0 _ rfl)
      obtain ⟨g, o, spot⟩ := a
      have hs0 : spot = none := by simpa [Addr.add] using hsp
      subst hs0
      rw [Addr.add_mid] at p0 p1 p2 p3
      exact ⟨g, o, lv, rfl, trivial, ⟨p0, by rw [Nat.add_assoc]; exact p1, by rw [Nat.add_assoc]; exact p2, by rw [Nat.add_assoc]; exact p3⟩, q3⟩
end
end Go.Proofs.YtmpfbjmaiddigaaGreatDoor
namespace Go.Proofs.YtmpfbjmaiddigaaGreatDoor
open Go.RowKit Go.ChangeShapes Go.WideShapes
set_option linter.unusedVariables false
set_option linter.unusedSimpArgs false
theorem vbytesV : Tryz.prog.bytesOf 54 = 56 := by kernel_rfl
section
variable {H : Type} {enc : TypeId × Value → H} {w : World} {base : Nat} {held : Bool}
theorem vweights_mem : ∀ (l : List (DataW H)) (d : DataW H), d ∈ l → (DataW.weightsAll Tryz.prog 54 l).all (· ≤ reachBytes) = true → (d.weights Tryz.prog 54).all (· ≤ reachBytes) = true
  | [], _, h, _ => by cases h
  | a :: r, d, h, g => by
    simp only [DataW.weightsAll, List.all_append, Bool.and_eq_true] at g
    rcases List.mem_cons.1 h with rfl | h
    · exact g.1
    · exact vweights_mem r d h g.2
theorem read_w (fuel : Nat) : ∀ {cs : List Value} {x : DataW H × List MemPlace}, DataW.trod enc Tryz.prog w base (fun _ => true) held fuel 54 cs = some x → (x.1.weights Tryz.prog 54).all (· ≤ reachBytes) = true → ∃ (t : Vt) (lv : Value) (d : Nat), cs = [.int .i64 t.k, .int .i64 t.n, .string t.s, lv] ∧ SmT d t ∧ VsAt w (fun _ => True) d t.l lv := by
  induction fuel using Nat.strongRecOn with
  | ind fuel ih =>
  intro cs x h hb
  obtain ⟨xs, n, hn, rfl, hl, hxl, hf⟩ := DataW.trod_struct Tryz.underlying54 h
  rw [vcellsV] at hl
  obtain ⟨c0, c1, c2, c3, rfl⟩ := vfour cs hl
  obtain ⟨y0, y1, y2, y3, rfl⟩ := vfour xs hxl
  have g0 : DataW.trod enc Tryz.prog w base (fun _ => true) held n 3 (([c0, c1, c2, c3].drop 0).take (Tryz.prog.cellsOf 3)) = some y0 := hf 0 _ rfl
  have g1 : DataW.trod enc Tryz.prog w base (fun _ => true) held n 2 (([c0, c1, c2, c3].drop 1).take (Tryz.prog.cellsOf 2)) = some y1 := hf 1 _ rfl
  have g2 : DataW.trod enc Tryz.prog w base (fun _ => true) held n 9 (([c0, c1, c2, c3].drop 2).take (Tryz.prog.cellsOf 9)) = some y2 := hf 2 _ rfl
  have g3 : DataW.trod enc Tryz.prog w base (fun _ => true) held n 22 (([c0, c1, c2, c3].drop 3).take (Tryz.prog.cellsOf 22)) = some y3 := hf 3 _ rfl
  rw [vcellsI] at g0
  rw [vcellsN] at g1
  rw [vcellsS] at g2
  rw [vcellsL] at g3
  simp only [List.drop_succ_cons, List.drop_zero, List.take_succ_cons, List.take_zero] at g0 g1 g2 g3
  obtain ⟨n0, e0, _, w0⟩ := DataW.trod_int Tryz.underlying3 g0
  obtain ⟨n1, e1, _, w1⟩ := DataW.trod_int Tryz.underlying2 g1
  obtain ⟨s, e2, hs2, _⟩ := DataW.trod_string Tryz.underlying9 g2
  simp only [List.cons.injEq, and_true] at e0 e1 e2
  subst e0 e1 e2
  have hb' : (DataW.weights Tryz.prog 9 y2.1).all (· ≤ reachBytes) = true ∧ (DataW.weights Tryz.prog 22 y3.1).all (· ≤ reachBytes) = true := by
    simp only [DataW.weights, Tryz.underlying54, List.map_cons, List.map_nil, DataW.weightsEach, List.all_append, Bool.and_eq_true] at hb
    exact ⟨hb.2.2.1, hb.2.2.2.1⟩
  have hr : reachBytes = 140737488351232 := rfl
  have hs : s.size ≤ 140737488355328 := by
    have h1 := hb'.1
    rw [hs2] at h1
    simp only [DataW.weights, List.all_cons, List.all_nil, Bool.and_true, decide_eq_true_eq] at h1
    have : s.data.toList.length = s.size := Array.length_toList
    omega
  rcases DataW.trod_slice Tryz.underlying22 g3 with ⟨hcs, _⟩ | ⟨a, len, cap, elems, rest, m, hm, hcs, hx, _, hlc, _, hel, hget, _, _⟩
  · simp only [List.cons.injEq, and_true] at hcs
    subst hcs
    exact ⟨⟨n0, n1, s, []⟩, _, 1, rfl, ⟨(by dsimp only; omega), Nat.zero_le _, vbounds w0, vbounds w1, fun x hx => by cases hx⟩, none, 0, rfl, Nat.zero_le _, fun i x hx => by simp at hx⟩
  · simp only [List.cons.injEq, and_true] at hcs
    subst hcs
    have hb3 : (elems.length + rest.length) * 56 ≤ reachBytes ∧ (DataW.weightsAll Tryz.prog 54 (elems.map (·.1))).all (· ≤ reachBytes) = true := by
      have h1 := hb'.2
      rw [hx] at h1
      simp only [DataW.weights, Tryz.underlying22, List.all_cons, List.all_append, Bool.and_eq_true, decide_eq_true_eq, vbytesV, List.length_map] at h1
      exact ⟨h1.1, h1.2.1⟩
    have hlen : len ≤ 2513169434900 := by omega
    obtain ⟨ts, htl, hts⟩ := vexists_list len (fun i (t : Vt) => ∃ lv d, (∀ j v, ([.int .i64 t.k, .int .i64 t.n, .string t.s, lv] : List Value)[j]? = some v → w.cell? (a.add (i * 4 + j)) = some v) ∧ SmT d t ∧ VsAt w (fun _ => True) d t.l lv) (fun i hi => by
      have h1 := hget i hi
      rw [vcellsV] at h1
      have hie : i < elems.length := by omega
      rw [List.getElem?_eq_getElem hie] at h1
      obtain ⟨cs', h2, h3⟩ := Option.bind_eq_some_iff.1 h1
      have hbi : ((elems[i]).1.weights Tryz.prog 54).all (· ≤ reachBytes) = true := vweights_mem (elems.map (·.1)) (elems[i]).1 (List.mem_map.2 ⟨_, List.getElem_mem hie, rfl⟩) hb3.2
      obtain ⟨t, lv, d, hc, q1, q2⟩ := ih m (by omega) h3 hbi
      refine ⟨t, lv, d, fun j v hv => ?_, q1, q2⟩
      rw [← hc] at hv
      rw [← Deep.add_add]
      exact (vcells_get h2).2 j v hv)
    obtain ⟨D, hD⟩ := vuniform (fun i d => ∀ (h : i < ts.length), ∃ lv, (∀ j v, ([.int .i64 ts[i].k, .int .i64 ts[i].n, .string ts[i].s, lv] : List Value)[j]? = some v → w.cell? (a.add (i * 4 + j)) = some v) ∧ SmT d ts[i] ∧ VsAt w (fun _ => True) d ts[i].l lv) (fun i d d' hd hq h => by
      obtain ⟨lv, q1, q2, q3⟩ := hq h
      exact ⟨lv, q1, q2.mono hd, q3.step (fun _ g => g) (fun _ _ _ g => g) hd⟩) ts.length (fun i hi => by
      obtain ⟨lv, d, q1, q2, q3⟩ := hts i hi
      exact ⟨d, fun _ => ⟨lv, q1, q2, q3⟩⟩)
    refine ⟨⟨n0, n1, s, ts⟩, _, D + 1, rfl, ⟨(by dsimp only; omega), by dsimp only; omega, vbounds w0, vbounds w1, fun x hx => ?_⟩, some a, cap, by dsimp only; rw [htl], by dsimp only; omega, fun i x hx => ?_⟩
    · obtain ⟨i, hi, rfl⟩ := List.getElem_of_mem hx
      obtain ⟨lv, q1, q2, q3⟩ := hD i hi hi
      exact q2
    · dsimp only at hx
      obtain ⟨hi, rfl⟩ := List.getElem?_eq_some_iff.1 hx
      obtain ⟨lv, q1, q2, q3⟩ := hD i hi hi
      have p0 := q1 0 _ rfl
      have p1 := q1 1 _ rfl
      have p2 := q1 2 _ rfl
      have p3 := q1 3 _ rfl
      have h0 : 0 < ts.length := by omega
      obtain ⟨lv0, z1, _, _⟩ := hD 0 h0 h0
      have hsp := World.cell?_spot (z1 0 _ rfl)
      obtain ⟨g, o, spot⟩ := a
      have hs0 : spot = none := by simpa [Addr.add] using hsp
      subst hs0
      rw [Addr.add_mid] at p0 p1 p2 p3
      exact ⟨g, o, lv, rfl, trivial, ⟨p0, by rw [Nat.add_assoc]; exact p1, by rw [Nat.add_assoc]; exact p2, by rw [Nat.add_assoc]; exact p3⟩, q3⟩
end
end Go.Proofs.YtmpfbjmaiddigaaGreatDoor
namespace Go.Proofs.YtmpfbjmaiddigaaGreatDoor
open Go.RowKit Go.ChangeShapes Go.WideShapes
set_option linter.unusedVariables false
set_option linter.unusedSimpArgs false
section
variable {H : Type} {enc : TypeId × Value → H} {w : World} {base : Nat} {held : Bool}
theorem read_ws50 (fuel : Nat) {aa : Option Addr} {ll cc : Nat} {x : DataW H × List MemPlace} (h : DataW.trod enc Tryz.prog w base (fun _ => true) held fuel 22 [.slice aa ll cc] = some x) (hb : (x.1.weights Tryz.prog 22).all (· ≤ reachBytes) = true) : ∃ (l : List Vt) (d : Nat), l.length + 50 ≤ 2513169434900 ∧ (∀ x ∈ l, SmT d x) ∧ VsAt w (fun _ => True) (d + 1) l (.slice aa ll cc) := by
  have hr : reachBytes = 140737488351232 := rfl
  rcases DataW.trod_slice Tryz.underlying22 h with ⟨hcs, _⟩ | ⟨a, len, cap, elems, rest, m, hm, hcs, hx, _, hlc, _, hel, hget, _, _⟩
  · simp only [List.cons.injEq, and_true] at hcs
    rw [hcs]
    exact ⟨[], 1, by decide, (fun x hx => by cases hx), ⟨none, 0, rfl, Nat.zero_le _, fun i x hx => by simp at hx⟩⟩
  · simp only [List.cons.injEq, and_true] at hcs
    rw [hcs]
    have hb3 : (elems.length + rest.length) * 56 ≤ reachBytes ∧ (DataW.weightsAll Tryz.prog 54 (elems.map (·.1))).all (· ≤ reachBytes) = true := by
      have h1 := hb
      rw [hx] at h1
      simp only [DataW.weights, Tryz.underlying22, List.all_cons, List.all_append, Bool.and_eq_true, decide_eq_true_eq, vbytesV, List.length_map] at h1
      exact ⟨h1.1, h1.2.1⟩
    have hlen : len + 50 ≤ 2513169434900 := by omega
    obtain ⟨ts, htl, hts⟩ := vexists_list len (fun i (t : Vt) => ∃ lv d, (∀ j v, ([.int .i64 t.k, .int .i64 t.n, .string t.s, lv] : List Value)[j]? = some v → w.cell? (a.add (i * 4 + j)) = some v) ∧ SmT d t ∧ VsAt w (fun _ => True) d t.l lv) (fun i hi => by
      have h1 := hget i hi
      rw [vcellsV] at h1
      have hie : i < elems.length := by omega
      rw [List.getElem?_eq_getElem hie] at h1
      obtain ⟨cs', h2, h3⟩ := Option.bind_eq_some_iff.1 h1
      have hbi : ((elems[i]).1.weights Tryz.prog 54).all (· ≤ reachBytes) = true := vweights_mem (elems.map (·.1)) (elems[i]).1 (List.mem_map.2 ⟨_, List.getElem_mem hie, rfl⟩) hb3.2
      obtain ⟨t, lv, d, hc, q1, q2⟩ := read_w m h3 hbi
      refine ⟨t, lv, d, fun j v hv => ?_, q1, q2⟩
      rw [← hc] at hv
      rw [← Deep.add_add]
      exact (vcells_get h2).2 j v hv)
    obtain ⟨D, hD⟩ := vuniform (fun i d => ∀ (h : i < ts.length), ∃ lv, (∀ j v, ([.int .i64 ts[i].k, .int .i64 ts[i].n, .string ts[i].s, lv] : List Value)[j]? = some v → w.cell? (a.add (i * 4 + j)) = some v) ∧ SmT d ts[i] ∧ VsAt w (fun _ => True) d ts[i].l lv) (fun i d d' hd hq h => by
      obtain ⟨lv, q1, q2, q3⟩ := hq h
      exact ⟨lv, q1, q2.mono hd, q3.step (fun _ g => g) (fun _ _ _ g => g) hd⟩) ts.length (fun i hi => by
      obtain ⟨lv, d, q1, q2, q3⟩ := hts i hi
      exact ⟨d, fun _ => ⟨lv, q1, q2, q3⟩⟩)
    refine ⟨ts, D, by omega, fun x hx => ?_, some a, cap, by rw [htl], by omega, fun i x hx => ?_⟩
    · obtain ⟨i, hi, rfl⟩ := List.getElem_of_mem hx
      obtain ⟨lv, q1, q2, q3⟩ := hD i hi hi
      exact q2
    · obtain ⟨hi, rfl⟩ := List.getElem?_eq_some_iff.1 hx
      obtain ⟨lv, q1, q2, q3⟩ := hD i hi hi
      have p0 := q1 0 _ rfl
      have p1 := q1 1 _ rfl
      have p2 := q1 2 _ rfl
      have p3 := q1 3 _ rfl
      have h0 : 0 < ts.length := by omega
      obtain ⟨lv0, z1, _, _⟩ := hD 0 h0 h0
      have hsp := World.cell?_spot (z1 0 _ rfl)
      obtain ⟨g, o, spot⟩ := a
      have hs0 : spot = none := by simpa [Addr.add] using hsp
      subst hs0
      rw [Addr.add_mid] at p0 p1 p2 p3
      exact ⟨g, o, lv, rfl, trivial, ⟨p0, by rw [Nat.add_assoc]; exact p1, by rw [Nat.add_assoc]; exact p2, by rw [Nat.add_assoc]; exact p3⟩, q3⟩
theorem read_ws (fuel : Nat) {aa : Option Addr} {ll cc : Nat} {x : DataW H × List MemPlace} (h : DataW.trod enc Tryz.prog w base (fun _ => true) held fuel 22 [.slice aa ll cc] = some x) (hb : (x.1.weights Tryz.prog 22).all (· ≤ reachBytes) = true) : ∃ (l : List Vt) (d : Nat), l.length ≤ 2513169434900 ∧ (∀ x ∈ l, SmT d x) ∧ VsAt w (fun _ => True) (d + 1) l (.slice aa ll cc) := by
  obtain ⟨l, d, h1, h2⟩ := read_ws50 fuel h hb
  exact ⟨l, d, by omega, h2⟩
end
end Go.Proofs.YtmpfbjmaiddigaaGreatDoor
