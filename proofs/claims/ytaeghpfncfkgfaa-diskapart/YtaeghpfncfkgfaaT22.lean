/- The walk of the law DiskApart. -/
import Derived.Test.YtaeghpfncfkgfaaT17
import Derived.Test.YtaeghpfncfkgfaaT21
namespace Go.Proofs.Ytaeghpfncfkgfaa
open Go.RowKit
set_option linter.unusedSimpArgs false
set_option linter.unusedVariables false

/-- Both disks stand: the one has F at k, the other shows s0, and so does the row at gB. -/
def Stand (w w1 : World) (p S p' S' gB k n : Nat) (s0 : Nat → Nat → Int) (F : Nat → Int) : Prop :=
  (∃ pv d, DiskAt w1 w.heap.size p S pv d ∧ d.life = -1 ∧ k < d.n ∧ d.sec k = F) ∧ (∃ pv d, DiskAt w1 w.heap.size p' S' pv d ∧ d.life = -1 ∧ d.n = n ∧ d.sec = s0) ∧ w1.rangeAt gB 0 (allL n s0) ∧ Only (fun _ => False) w w1
theorem Stand.frame {w w1 w2 : World} {p S p' S' gB k n : Nat} {s0 : Nat → Nat → Int} {F : Nat → Int} (h : Stand w w1 p S p' S' gB k n s0 F) (ho : Only (fun _ => False) w1 w2) : Stand w w2 p S p' S' gB k n s0 F := by
  obtain ⟨⟨pv, d, h1, h2⟩, ⟨pv', d', h3, h4⟩, h5, h6⟩ := h
  exact ⟨⟨pv, d, h1.frame ho (fun _ _ e => e), h2⟩, ⟨pv', d', h3.frame ho (fun _ _ e => e), h4⟩, ho.range h5 (fun e => e), h6.trans ho (fun _ _ e => e)⟩
theorem stand_read {w w1 : World} {p S p' S' gB k n : Nat} {s0 : Nat → Nat → Int} {F : Nat → Int} (h : Stand w w1 p S p' S' gB k n s0 F) :
    Calls Try.prog 25 #[.pointer (some ⟨p, 0, none⟩), .int .i64 k] w1 fun e w2 => e = .returned (.tuple #[.slice (some ⟨w1.heap.size, 0, none⟩) 32 32, .int .i64 0]) ∧ w2 = w1.alloc (.cells (secL F).toArray 68) := by
  obtain ⟨⟨pv, d, h1, h2, h3, h4⟩, _⟩ := h
  have := read_any p S k _ pv d w1 h1 (by rw [h2]; decide) h3
  rw [h4] at this
  exact this
theorem stand_all {w w1 : World} {p S p' S' gB cB k n : Nat} {s0 : Nat → Nat → Int} {F : Nat → Int} (h : Stand w w1 p S p' S' gB k n s0 F) :
    Calls Try.prog 18 #[.pointer (some ⟨p', 0, none⟩)] w1 fun e w2 => ∃ g cap, e = .returned (.slice (some ⟨g, 0, none⟩) (n * 32) cap) ∧ Hid (Calls Try.prog 20 #[.slice (some ⟨g, 0, none⟩) (n * 32) cap, .slice (some ⟨gB, 0, none⟩) (n * 32) cB] w2 fun e w3 => e = .returned (.bool true) ∧ Hid (Only (fun _ => False) w1 w3)) := by
  obtain ⟨_, ⟨pv, d, h1, h2, rfl, rfl⟩, h5, h6⟩ := h
  refine (all_rng p' S' _ pv d w1 h1 (by rw [h2]; decide)).mono ?_
  rintro e w2 ⟨g, cap, rfl, _, _, hr, ho⟩
  refine ⟨g, cap, rfl, (same_rng g gB cap cB d.n d.sec d.sec w2 h1.n2 hr (ho.range h5 (fun e => e)) (fun _ _ _ _ => rfl)).mono ?_⟩
  rintro e w3 ⟨rfl, o3⟩
  exact ⟨rfl, ho.trans o3 (fun _ _ e => e)⟩
/-- Full of the bytes that were handed in, and SameBytes of it and a row that has the same. -/
theorem full_same {w w1 : World} {vb : Value} {zs : List Int} (hb : BytesAt w vb zs) (ho : Only (fun _ => False) w w1) (g c : Nat) (hg : w1.rangeAt g 0 (secL (fullF (fun j => zs.getD j 0) zs.length))) :
    Calls Try.prog 24 #[vb] w1 fun e w2 => ∃ gf, e = .returned (.slice (some ⟨gf, 0, none⟩) 32 32) ∧ Hid (Only (fun _ => False) w1 w2) ∧ Hid (Calls Try.prog 20 #[.slice (some ⟨g, 0, none⟩) 32 c, .slice (some ⟨gf, 0, none⟩) 32 32] w2 fun e w3 => e = .returned (.bool true) ∧ Hid (Only (fun _ => False) w1 w3)) := by
  have hb1 : BytesAt w1 vb zs := ⟨hb.1.frame ho (fun _ e => e.elim), hb.2⟩
  refine (full_bytes vb zs w1 hb1).mono ?_
  rintro e w2 ⟨rfl, rfl⟩
  have oA : Only (fun _ => False) w1 (w1.alloc (.cells (secL (fullF (fun j => zs.getD j 0) zs.length)).toArray 5)) := (Only.refl _ w1).alloc _
  refine ⟨_, rfl, oA, (same_core _ _ 32 c 32 (fullF (fun j => zs.getD j 0) zs.length) _ (by omega) (fun j hj => ⟨g, 0, rfl, oA.range hg (fun e => e) j _ (secL_get _ j hj)⟩) (fun j hj => ⟨_, 0, rfl, ?_⟩)).mono ?_⟩
  · rw [Nat.zero_add, cell_of_row _ _ _ _ _ _ (heap_alloc_new w1 _)]
    simp [secL_get _ j hj]
  · rintro e w3 ⟨rfl, o3⟩
    exact ⟨rfl, oA.trans o3 (fun _ _ e => e)⟩
/-- Behind the write: the row that was handed in still holds what it held. -/
theorem full_write {w wF : World} {p S p' S' gB k gF cF : Nat} {pv pv' vb : Value} {d : DS} {zs : List Int} (hb : BytesAt w vb zs) (ho : Only (fun _ => False) w wF) (hd : DiskAt wF w.heap.size p S pv d) (hd' : DiskAt wF w.heap.size p' S' pv' d) (hl : d.life = -1) (hk : k < d.n)
    (hlen : (d.pend.length + 1) * 72 ≤ 140737488355328) (hB : wF.rangeAt gB 0 (allL d.n d.sec)) (hF : wF.rangeAt gF 0 (secL (fullF (fun j => zs.getD j 0) zs.length) ++ [.int .u8 71, .int .u8 72])) (ht : wF.there gF 0 34)
    (n1 : ∀ b, diskB p S pv b → ¬ diskB p' S' pv' b) (n2 : ¬ diskB p S pv gB) (n3 : ¬ diskB p S pv gF) (n4 : ¬ diskB p' S' pv' gF) (n5 : gB ≠ gF) (n6 : w.heap.size ≤ gF) :
    Calls Try.prog 21 #[.pointer (some ⟨p, 0, none⟩), .int .i64 k, .slice (some ⟨gF, 0, none⟩) 32 cF] wF fun e w7 => e = .returned (.int .i64 0) ∧ w7.cell? ⟨gF, 32, none⟩ = some (.int .u8 71) ∧ w7.cell? ⟨gF, 33, none⟩ = some (.int .u8 72) ∧
      Hid (Calls Try.prog 24 #[vb] w7 fun e w8 => ∃ gf, e = .returned (.slice (some ⟨gf, 0, none⟩) 32 32) ∧ w8.cell? ⟨gF, 32, none⟩ = some (.int .u8 71) ∧ w8.cell? ⟨gF, 33, none⟩ = some (.int .u8 72) ∧
        Hid (Calls Try.prog 20 #[.slice (some ⟨gF, 0, none⟩) 32 cF, .slice (some ⟨gf, 0, none⟩) 32 32] w8 fun e w9 => e = .returned (.bool true) ∧ w9.cell? ⟨gF, 32, none⟩ = some (.int .u8 71) ∧ w9.cell? ⟨gF, 33, none⟩ = some (.int .u8 72) ∧
          Hid (w9.there gF 0 34 ∧ ∀ w10, Only (fun b => b = gF) w9 w10 → Stand w w10 p S p' S' gB k d.n d.sec (fullF (fun j => zs.getD j 0) zs.length)))) := by
  have hF32 : wF.rangeAt gF 0 (secL (fullF (fun j => zs.getD j 0) zs.length)) := fun j v hv => hF j v (by
    rw [List.getElem?_append_left (by have := List.getElem?_eq_some_iff.1 hv; exact this.1)]; exact hv)
  have c32 : wF.cell? ⟨gF, 32, none⟩ = some (.int .u8 71) := by
    have := hF 32 (.int .u8 71) (by rw [List.getElem?_append_right (by simp [secL_length])]; simp [secL_length])
    simpa using this
  have c33 : wF.cell? ⟨gF, 33, none⟩ = some (.int .u8 72) := by
    have := hF 33 (.int .u8 72) (by rw [List.getElem?_append_right (by simp [secL_length])]; simp [secL_length])
    simpa using this
  refine (write_ok p S k gF 0 cF _ pv d _ wF hd (by rw [hl]; decide) hk hF32 ho.size hlen).mono ?_
  rintro e w7 ⟨rfl, pv7, d7, o7, hb7⟩
  have hF7 := o7.range hF32 n3
  have ho7 : Only (fun _ => False) w w7 := ho.trans o7 (fun b hb e => by have := (hd.lt b e).1; omega)
  refine ⟨rfl, o7.cell c32 n3, o7.cell c33 n3, (full_same hb ho7 gF cF hF7).mono ?_⟩
  rintro e w8 ⟨gf, rfl, O8, HC⟩
  have o8 := O8.out
  refine ⟨gf, rfl, o8.cell (o7.cell c32 n3) (fun e => e), o8.cell (o7.cell c33 n3) (fun e => e), HC.out.mono ?_⟩
  rintro e w9 ⟨rfl, O9⟩
  have o9 := O9.out
  refine ⟨rfl, o9.cell (o7.cell c32 n3) (fun e => e), o9.cell (o7.cell c33 n3) (fun e => e), o9.there (o7.there ht n3) (fun e => e), ?_⟩
  intro w10 o10
  have hgl : gF < wF.heap.size := World.block_lt_of_cell? wF _ c32
  refine ⟨⟨pv7, _, (d7.frame o9 (fun _ _ e => e)).frame o10 ?_, by simp [aged, hl], hk, by simp [upd]⟩, ⟨pv', d, ((hd'.frame o7 (fun b hb e => n1 b e hb)).frame o9 (fun _ _ e => e)).frame o10 ?_, hl, rfl, rfl⟩, ?_, ?_⟩
  · rintro b (rfl | rfl | hb) rfl
    · exact n3 (.inl rfl)
    · exact n3 (.inr (.inl rfl))
    · rcases hb7 _ hb with h | h
      · exact n3 (.inr (.inr h))
      · omega
  · rintro b hb rfl
    exact n4 hb
  · exact o10.range (o9.range (o7.range hB n2) (fun e => e)) n5
  · exact (ho7.trans o9 (fun _ _ e => e)).trans o10 (fun b hb e => by omega)

set_option maxRecDepth 100000 in
set_option maxHeartbeats 4000000 in
theorem apart_bad (s s1 : Int) (v vb : Value) (os : List OpD) (w : World) (hs : ScriptAt w v os) (hc : s1 < 0) :
    Calls Try.prog 8 #[.int .i64 s, v, .int .i64 s1, vb] w fun e w' => e = .returned (.bool true) ∧ Below w.heap.size w w' := by
  go_enter Try.func8, Try.ntmps8
  go_wp2_with fail
  refine (grown_any s v os w hs).mono ?_
  rintro e w1 ⟨p, S, pv, d, rfl, d1, hdn, hdl, hdp, o1⟩
  clear d1
  go_wp2_with fail
  refine (awake_any w1).mono ?_
  rintro e w2 ⟨rfl, o2⟩
  have O2 : Hid (Only (fun _ => False) w w2) := o1.trans o2 (fun _ _ e => e)
  clear o1 o2
  go_wp2_with fail
  refine (awake_any w2).mono ?_
  rintro e w3 ⟨rfl, o3⟩
  have O3 : Hid (Below w.heap.size w w3) := (O2.out.trans o3 (fun _ _ e => e)).below (fun _ e => e.elim) (Nat.le_refl _)
  clear o3 O2
  go_wp2
  go_ret
  exact ⟨rfl, O3.out⟩
end Go.Proofs.Ytaeghpfncfkgfaa
