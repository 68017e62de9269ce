import Derived.Test.YtlcglapcmdpkfaaGreatM6
namespace Go.Proofs.YtlcglapcmdpkfaaGreat
open Go.RowKit Go.Maps
set_option linter.unusedSimpArgs false
set_option linter.unusedVariables false
theorem range_set {w : World} {s j : Nat} {cs : List Value} (h : w.rangeAt s 0 cs) (hj : j < cs.length) (v : Value) : (w.setCell ⟨s, j, none⟩ v).rangeAt s 0 (cs.set j v) := by
 intro i u hu
 rw [Nat.zero_add]
 rw [List.getElem?_set] at hu
 have hc : w.cell? ⟨s, j, none⟩ = some cs[j] := by
  have := h j cs[j] (List.getElem?_eq_getElem hj)
  rwa [Nat.zero_add] at this
 by_cases e : j = i
 ·subst e
  simp only [if_true, hj] at hu
  rw [World.cell?_setCell_same _ _ _ hc]
  exact hu
 ·rw [if_neg e] at hu
  rw [World.cell?_setCell_other _ _ _ _ (by simp; try exact fun e' => e e'.symm)]
  have := h i u hu
  rwa [Nat.zero_add] at this
theorem there_set {w : World} {s j n : Nat} {u : Value} (h : w.there s 0 n) (hc : w.cell? ⟨s, j, none⟩ = some u) (v : Value) : (w.setCell ⟨s, j, none⟩ v).there s 0 n := by
 intro i hi
 obtain ⟨h1, h2⟩ := h i hi
 rw [Nat.zero_add] at h1 h2 ⊢
 refine ⟨?_, by simpa using h2⟩
 by_cases e : j = i
 ·subst e
  rw [World.cell?_setCell_same _ _ _ hc]; rfl
 ·rw [World.cell?_setCell_other _ _ _ _ (by simp; try exact fun e' => e e'.symm)]
  exact h1
theorem map_ne_cells {w : World} {m s j : Nat} {l : List (Int × Value)} {v : Value} (h : MapAt w m l) (hc : w.cell? ⟨s, j, none⟩ = some v) : s ≠ m := by
 rintro rfl
 obtain ⟨es, clock, hb, _⟩ := h.own
 simp [World.cell?, hb] at hc
set_option maxRecDepth 100000 in
set_option maxHeartbeats 2000000 in
theorem take_any (s m : Nat) (v0 v1 v2 v3 v4 v5 v6 : Value) (l : List (Int × Value)) (w : World) (h : w.rangeAt s 0 [v0, v1, v2, v3, v4, v5, v6]) (ht : w.there s 0 7) (hm : MapAt w m l) :
  Calls Tryz.prog 31 #[.pointer (some ⟨s, 0, none⟩), .map (some m)] w fun e w' => e = .returned (.tuple #[]) ∧ w'.rangeAt s 0 [v0, v1, v2, v3, v4, .map (some m), .map (some w.heap.size)] ∧ w'.there s 0 7 ∧ MapAt w' w.heap.size l ∧ MapAt w' m l ∧ Only (fun k => k = s) w w' := by
 have hne : s ≠ m := map_ne_cells hm (h 0 _ rfl)
 obtain ⟨w1, hw1⟩ : ∃ w1, w1 = w.setCell ⟨s, 5, none⟩ (.map (some m)) := ⟨_, rfl⟩
 have o1 : Only (fun k => k = s) w w1 := by rw [hw1]; exact (Only.refl _ w).setCell _ _ (fun _ => rfl)
 have r1 : w1.rangeAt s 0 [v0, v1, v2, v3, v4, .map (some m), v6] := by rw [hw1]; exact range_set h (by simp) _
 have t1 : w1.there s 0 7 := by rw [hw1]; exact there_set ht (h 5 _ rfl) _
 have m1 : MapAt w1 m l := hm.frame o1 (fun e => hne e.symm)
 have sz : w1.heap.size = w.heap.size := by rw [hw1]; simp [World.setCell]
 have HC : Hid (Calls Tryz.prog 67 #[.map (some m)] w1 fun e w' => e = .returned (.map (some w.heap.size)) ∧ MapAt w' w.heap.size l ∧ Only (fun _ => False) w1 w') := by
  refine (mclone_any m l w1 m1).mono ?_
  rintro e w' ⟨rfl, h1, h2, _⟩
  rw [sz] at h1 ⊢
  exact ⟨rfl, h1, h2⟩
 have c5 : w.cell? ⟨s, 5, none⟩ = some v5 := h 5 _ rfl
 have f5 : w.frozen? ⟨s, 5, none⟩ = false := (ht 5 (by omega)).2
 have H1 : Hid (w1.rangeAt s 0 [v0, v1, v2, v3, v4, .map (some m), v6] ∧ w1.there s 0 7 ∧ MapAt w1 m l ∧ Only (fun k => k = s) w w1 ∧ s ≠ m) := ⟨r1, t1, m1, o1, hne⟩
 have HW : Hid (w1 = w.setCell ⟨s, 5, none⟩ (.map (some m))) := hw1
 have hsl : s < w.heap.size := World.block_lt_of_cell? w _ (h 0 _ rfl)
 have HL : Hid _ := hsl
 clear h ht hm hne hw1 o1 r1 t1 m1 sz hsl
 go_enter Tryz.func31, Tryz.ntmps31
 go_wp2_with fail
 rw [← HW.out]
 refine (show Calls Tryz.prog 67 _ _ _ from HC.out).mono ?_
 rintro e w2 ⟨rfl, hm2, ho2⟩
 have c6 : w2.cell? ⟨s, 6, none⟩ = some v6 := ho2.cell (H1.out.1 6 _ rfl) (fun e => e)
 have t2 := ho2.there H1.out.2.1 (fun e => e)
 have f6 : w2.frozen? ⟨s, 6, none⟩ = false := (t2 6 (by omega)).2
 have HE : Hid (∀ w3, w3 = w2.setCell ⟨s, 6, none⟩ (.map (some w.heap.size)) → w3.rangeAt s 0 [v0, v1, v2, v3, v4, .map (some m), .map (some w.heap.size)] ∧ w3.there s 0 7 ∧ MapAt w3 w.heap.size l ∧ MapAt w3 m l ∧ Only (fun k => k = s) w w3) := by
  rintro w3 rfl
  have oS : Only (fun k => k = s) w2 (w2.setCell ⟨s, 6, none⟩ (.map (some w.heap.size))) := (Only.refl _ w2).setCell _ _ (fun _ => rfl)
  refine ⟨range_set (ho2.range H1.out.1 (fun e => e)) (by simp) _, there_set t2 c6 _, hm2.frame oS (fun e => by have := HL.out; omega), (H1.out.2.2.1.frame ho2 (fun e => e)).frame oS (fun e => H1.out.2.2.2.2 e.symm), ?_⟩
  exact (H1.out.2.2.2.1.trans ho2 (fun _ _ e => e.elim)).trans oS (fun _ _ e => e)
 clear hm2 ho2 t2 H1 HC HW HL
 go_wp2
 go_end0
 exact ⟨rfl, HE.out _ rfl⟩
end Go.Proofs.YtlcglapcmdpkfaaGreat
