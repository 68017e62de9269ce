import Derived.Test.YtenjollhlgjjdaaGreatDoorGaa
import Derived.Test.YtenjollhlgjjdaaGreatDoorGba
/-  -/
set_option linter.unusedSimpArgs false
set_option linter.unusedVariables false
namespace Go.Proofs.YtenjollhlgjjdaaGreatDoor
open Go.RowKit Go.ChangeShapes Go.WideShapes
section
variable {H : Type} {enc : TypeId × Value → H} {w : World} {base : Nat} {held : Bool}
theorem read_vs1 (fuel : Nat) {aa : Option Addr} {ll cc : Nat} {x : DataW H × List MemPlace} (h : DataW.trod enc Tryz.prog w base (fun _ => true) held fuel 22 [.slice aa ll cc] = some x) (hb : Rows.uptoBulk x.1 ≤ 1048576) : ∃ (l : List Vt) (d : Nat), l.length + 1 ≤ 1048576 ∧ (∀ x ∈ l, SmT d x) ∧ VsAt w (fun _ => True) (d + 1) l (.slice aa ll cc) := by
 rcases DataW.trod_slice Tryz.underlying22 h with ⟨hcs, _⟩ | ⟨a, len, cap, elems, rest, m, hm, hcs, hx, _, hlc, _, hel, hget, _, _⟩
 ·simp only [List.cons.injEq, and_true] at hcs
  rw [hcs]
  exact ⟨[], 1, by decide, (fun x hx => by cases hx), ⟨none, 0, rfl, Nat.zero_le _, fun i x hx => by simp at hx⟩⟩
 ·simp only [List.cons.injEq, and_true] at hcs
  rw [hcs]
  have hb3 : Rows.uptoBulkAll (elems.map (·.1)) ≤ 1048575 := by
   rw [hx] at hb
   simp only [Rows.uptoBulk] at hb
   omega
  have hlen : len + 1 ≤ 1048576 := by
   have := vbulk_len (elems.map (·.1))
   simp at this
   omega
  obtain ⟨ts, htl, hts⟩ := vexists_list len (fun i (t : Vt) => ∃ lv d, (∀ j v, ([.int .i64 t.k, .int .i64 t.n, .string t.s, lv] : List Value)[j]? = some v → w.cell? (a.add (i * 4 + j)) = some v) ∧ SmT d t ∧ VsAt w (fun _ => True) d t.l lv) (fun i hi => by
   have h1 := hget i hi
   rw [vcellsV] at h1
   have hie : i < elems.length := by omega
   rw [List.getElem?_eq_getElem hie] at h1
   obtain ⟨cs', h2, h3⟩ := Option.bind_eq_some_iff.1 h1
   have hbi : Rows.uptoBulk (elems[i]).1 ≤ 1048576 := by
    have := vbulk_mem (elems.map (·.1)) (elems[i]).1 (List.mem_map.2 ⟨_, List.getElem_mem hie, rfl⟩)
    omega
   obtain ⟨t, lv, d, hc, q1, q2⟩ := read_v m h3 hbi
   refine ⟨t, lv, d, fun j v hv => ?_, q1, q2⟩
   rw [← hc] at hv
   rw [← Deep.add_add]
   exact (vcells_get h2).2 j v hv)
  obtain ⟨D, hD⟩ := vuniform (fun i d => ∀ (h : i < ts.length), ∃ lv, (∀ j v, ([.int .i64 ts[i].k, .int .i64 ts[i].n, .string ts[i].s, lv] : List Value)[j]? = some v → w.cell? (a.add (i * 4 + j)) = some v) ∧ SmT d ts[i] ∧ VsAt w (fun _ => True) d ts[i].l lv) (fun i d d' hd hq h => by
   obtain ⟨lv, q1, q2, q3⟩ := hq h
   exact ⟨lv, q1, q2.mono hd, q3.step (fun _ g => g) (fun _ _ _ g => g) hd⟩) ts.length (fun i hi => by
   obtain ⟨lv, d, q1, q2, q3⟩ := hts i hi
   exact ⟨d, fun _ => ⟨lv, q1, q2, q3⟩⟩)
  refine ⟨ts, D, by omega, fun x hx => ?_, some a, cap, by rw [htl], by omega, fun i x hx => ?_⟩
  ·obtain ⟨i, hi, rfl⟩ := List.getElem_of_mem hx
   obtain ⟨lv, q1, q2, q3⟩ := hD i hi hi
   exact q2
  ·obtain ⟨hi, rfl⟩ := List.getElem?_eq_some_iff.1 hx
   obtain ⟨lv, q1, q2, q3⟩ := hD i hi hi
   have p0 := q1 0 _ rfl
   have p1 := q1 1 _ rfl
   have p2 := q1 2 _ rfl
   have p3 := q1 3 _ rfl
   have h0 : 0 < ts.length := by omega
   obtain ⟨lv0, z1, _, _⟩ := hD 0 h0 h0
   have hsp := World.cell?_spot (z1 0 _ rfl)
   obtain ⟨g, o, spot⟩ := a
   have hs0 : spot = none := by simpa [Addr.add] using hsp
   subst hs0
   rw [Addr.add_mid] at p0 p1 p2 p3
   exact ⟨g, o, lv, rfl, trivial, ⟨p0, by rw [Nat.add_assoc]; exact p1, by rw [Nat.add_assoc]; exact p2, by rw [Nat.add_assoc]; exact p3⟩, q3⟩
end
end Go.Proofs.YtenjollhlgjjdaaGreatDoor
