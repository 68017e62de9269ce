import Derived.Test.YtlcglapcmdpkfaaGreatG8
namespace Go.Proofs.YtlcglapcmdpkfaaGreat
open Go.RowKit
set_option linter.unusedSimpArgs false
set_option linter.unusedVariables false
section
variable {w : World} {rk : Nat → Prop} {B r q : Nat} {tv kv nv : Value} {x : SS} {lk ln : List RPg}
set_option maxRecDepth 100000 in
set_option maxHeartbeats 2000000 in
theorem rused_any (h : RsAt w rk B r q tv kv nv x lk ln) (dn : Nat) (hq : w.cell? ⟨q, 0, none⟩ = some (.int .i64 dn)) (hdn : dn ≤ 8192) (hsz : dn / 4 = x.size) :
  Calls Tryz.prog 86 #[.pointer (some ⟨r, 0, none⟩)] w fun e w' => e = .returned (.slice (some ⟨w.heap.size, 0, none⟩) x.size x.size) ∧ Hid (FBlk w' w.heap.size x.size (usedF x) ∧ Only (fun _ => False) w w') := by
 have HC := rcount_any q dn w hdn hq
 rw [hsz] at HC
 have HH : Hid (RsAt w rk B r q tv kv nv x lk ln) := h
 have c0 := h.c0
 have c3 := h.c3
 have c4 := h.c4
 obtain ⟨a4, n4, hv4, hc4⟩ := h.tabs.shape
 have HT : Hid (∀ j, j < x.tabs.length → ∃ g o, a4 = some ⟨g, o, none⟩ ∧ w.cell? ⟨g, o + j, none⟩ = some (.int .i64 (x.tabs.getD j 0 : Nat))) := hc4
 have htl := h.wf.tabs
 have HTL : Hid (∀ t ∈ x.tabs, 2 ≤ t ∧ t < x.size) := htl.2
 obtain ⟨ak, ck, hkv⟩ := h.comForm
 have hk7 := h.k728
 have hsize := h.wf.size
 obtain ⟨N, hN⟩ : ∃ N, N = x.size := ⟨_, rfl⟩
 obtain ⟨n, hn⟩ : ∃ n, n = x.com.length := ⟨_, rfl⟩
 obtain ⟨m, hm⟩ : ∃ m, m = x.tabs.length := ⟨_, rfl⟩
 have HN : Hid (N = x.size ∧ n = x.com.length ∧ m = x.tabs.length ∧ kv = .slice ak n ck) := ⟨hN, hn, hm, by rw [hn]; exact hkv⟩
 rw [← hN] at HC hsize ⊢
 rw [← hn] at hkv hk7
 rw [← hm] at hv4
 have hm7 : m ≤ 2048 := by rw [hm]; exact htl.1
 rw [hkv] at c4
 rw [hv4] at c3
 have hlt := h.lt
 obtain ⟨Z, hZ⟩ : ∃ Z, Z = ((flF N (fun _ => false)).map Value.bool).toArray := ⟨_, rfl⟩
 have hmk : (Instr.makeSlice 38 (.int .i64 N) (.int .i64 N)).run Tryz.prog w = .ok (.slice (some ⟨w.heap.size, 0, none⟩) N N) (w.alloc (.cells Z 4)) := by rw [hZ]; exact make_fl N (by omega) w
 have zz : ∀ j, j < N → Z[j]? = some (.bool false) := fun j hj => by
  rw [hZ, List.getElem?_toArray, List.getElem?_map]
  unfold flF
  rw [List.getElem?_map, List.getElem?_range hj]
  rfl
 have z0 := zz 0 (by omega)
 have z1 := zz 1 (by omega)
 obtain ⟨Y, hY⟩ : ∃ Y, Y = (Z.setIfInBounds 0 (.bool true)).setIfInBounds 1 (.bool true) := ⟨_, rfl⟩
 have hYf : Y = ((flF N (fun j => decide (j < 2))).map Value.bool).toArray := by
  have e : flF N (fun j => decide (j < 2)) = ((flF N (fun _ => false)).set 0 true).set 1 true := by
   rw [flF_set, flF_set]
   unfold flF
   apply List.map_congr_left
   intro j hj
   rw [Bool.eq_iff_iff]; simp; omega
  rw [hY, hZ, e]
  simp [List.map_set]
 have HS : Hid (FBlk (w.alloc (.cells ((Z.setIfInBounds 0 (.bool true)).setIfInBounds 1 (.bool true)) 4)) w.heap.size N (fun j => decide (j < 2)) ∧ Only (fun _ => False) w (w.alloc (.cells ((Z.setIfInBounds 0 (.bool true)).setIfInBounds 1 (.bool true)) 4))) := ⟨by rw [← hY, hYf]; exact heap_alloc_new w _, (Only.refl _ w).alloc _⟩
 have n0 : (0 : Int) < (N : Int) := by omega
 have n1 : (1 : Int) < (N : Int) := by omega
 clear h hc4 htl hkv hv4 hN hn hm hZ hY hYf zz
 go_enter Tryz.func86, Tryz.ntmps86
 go_wp2_with fail
 refine HC.mono ?_
 rintro e w1 ⟨rfl, rfl⟩
 clear HC
 go_wp2_with fail
 clear hmk z0 z1
 go_loopw [4] (fun t wr => ∃ k : Nat, k ≤ m ∧ t = .int .i64 k ∧ FBlk wr w1.heap.size N (fun j => decide (j < 2) || (x.tabs.take k).any (fun t => t == j)) ∧ Only (fun _ => False) w1 wr) (fun t _ => m - (intOf t).toNat)
 case atStart => exact ⟨0, Nat.zero_le _, rfl, HS.out.1.congr (fun j _ => by simp), HS.out.2⟩
 case round =>
  obtain ⟨k, hk, rfl, hfb, ho⟩ := hrel
  obtain ⟨wq, rfl⟩ : ∃ q, q = wr := ⟨_, rfl⟩
  have y3 := ho.cell c3 (fun e => e)
  by_cases hlt2 : k < m
  ·have hkx : k < x.tabs.length := by rw [← HN.out.2.2.1]; exact hlt2
   obtain ⟨g, o, hga, z0⟩ := HT.out k hkx
   subst hga
   have y0 := ho.cell z0 (fun e => e)
   obtain ⟨T, hT⟩ : ∃ T, T = x.tabs.getD k 0 := ⟨_, rfl⟩
   have hTe : T = x.tabs[k] := by rw [hT]; simp [List.getD, hkx]
   have hTN : T < N := by rw [HN.out.1, hTe]; exact (HTL.out _ (List.getElem_mem hkx)).2
   rw [← hT] at y0
   have bT := hfb.cell T hTN
   have fT := hfb.frozen T
   have HF : Hid (FBlk (wq.setCell ⟨w1.heap.size, T, none⟩ (.bool true)) w1.heap.size N (fun j => decide (j < 2) || (x.tabs.take (k + 1)).any (fun t => t == j)) ∧ Only (fun _ => False) w1 (wq.setCell ⟨w1.heap.size, T, none⟩ (.bool true))) := by
    refine ⟨(hfb.set T).congr (fun j _ => ?_), ho.setCell _ _ (fun e => by simp at e)⟩
    rw [List.take_succ_eq_append_getElem hkx, List.any_append, ← hTe]
    simp only [List.any_cons, List.any_nil, Bool.or_false, Bool.or_assoc]
    rw [show (j == T) = (T == j) from Bool.beq_comm ..]
   have i0 : (0 : Int) ≤ (k : Int) := Int.natCast_nonneg _
   have i1 : (k : Int) < (m : Int) := by omega
   have t0 : (0 : Int) ≤ (T : Int) := Int.natCast_nonneg _
   have t1 : (T : Int) < (N : Int) := by omega
   clear hfb ho z0 hT hTe hkx
   go_wp2
   go_roundw
   case rel => exact ⟨k + 1, by omega, by go_num, HF.out.1, HF.out.2⟩
   case measure => simp [intOf]; omega
  ·obtain rfl : k = m := by omega
   have HF2 : Hid (FBlk wq w1.heap.size N (fun j => decide (j < 2) || x.tabs.any (fun t => t == j)) ∧ Only (fun _ => False) w1 wq) := by
    rw [List.take_of_length_le (by rw [HN.out.2.2.1]; exact Nat.le_refl _)] at hfb
    exact ⟨hfb, ho⟩
   clear hfb ho hlt2
   go_wp2_with fail
   go_loopw [5] (fun t wr => ∃ k : Nat, k ≤ n ∧ t = .int .i64 k ∧ FBlk wr w1.heap.size N (fun j => decide (j < 2) || x.tabs.any (fun t => t == j) || (x.com.take k).any (fun p => p.2.1 == j)) ∧ Only (fun _ => False) w1 wr) (fun t _ => n - (intOf t).toNat)
   case atStart => exact ⟨0, Nat.zero_le _, rfl, HF2.out.1.congr (fun j _ => by simp), HF2.out.2⟩
   case round =>
    obtain ⟨k2, hk2, rfl, hfb, ho⟩ := hrel
    obtain ⟨wq2, rfl⟩ : ∃ q, q = wr := ⟨_, rfl⟩
    have y4 := ho.cell c4 (fun e => e)
    by_cases hlt3 : k2 < n
    ·have hkx : k2 < x.com.length := by rw [← HN.out.2.1]; exact hlt3
     obtain ⟨g, c', hv, z1, _⟩ := HH.out.keptAt k2 hkx
     rw [HN.out.2.2.2] at hv
     simp only [Value.slice.injEq] at hv
     obtain ⟨rfl, _, rfl⟩ := hv
     have y1 := ho.cell z1 (fun e => e)
     obtain ⟨T, hT⟩ : ∃ T, T = (x.com[k2]).2.1 := ⟨_, rfl⟩
     have hTN : T < N := by rw [HN.out.1, hT]; exact (HH.out.wf.com _ (List.getElem_mem hkx)).2.1.2
     rw [← hT] at y1
     have bT := hfb.cell T hTN
     have fT := hfb.frozen T
     have HF : Hid (FBlk (wq2.setCell ⟨w1.heap.size, T, none⟩ (.bool true)) w1.heap.size N (fun j => decide (j < 2) || x.tabs.any (fun t => t == j) || (x.com.take (k2 + 1)).any (fun p => p.2.1 == j)) ∧ Only (fun _ => False) w1 (wq2.setCell ⟨w1.heap.size, T, none⟩ (.bool true))) := by
      refine ⟨(hfb.set T).congr (fun j _ => ?_), ho.setCell _ _ (fun e => by simp at e)⟩
      rw [List.take_succ_eq_append_getElem hkx, List.any_append]
      simp only [List.any_cons, List.any_nil, Bool.or_false, Bool.or_assoc, ← hT]
      rw [show (j == T) = (T == j) from Bool.beq_comm ..]
     have i0 : (0 : Int) ≤ (k2 : Int) := Int.natCast_nonneg _
     have i1 : (k2 : Int) < (n : Int) := by omega
     have t0 : (0 : Int) ≤ (T : Int) := Int.natCast_nonneg _
     have t1 : (T : Int) < (N : Int) := by omega
     clear hfb ho z1 hT hkx
     go_wp2
     go_roundw
     case rel => exact ⟨k2 + 1, by omega, by go_num, HF.out.1, HF.out.2⟩
     case measure => simp [intOf]; omega
    ·obtain rfl : k2 = n := by omega
     have HF3 : Hid (FBlk wq2 w1.heap.size N (usedF x) ∧ Only (fun _ => False) w1 wq2) := by
      rw [List.take_of_length_le (by rw [HN.out.2.1]; exact Nat.le_refl _)] at hfb
      refine ⟨hfb.congr (fun j _ => ?_), ho⟩
      unfold usedF
      rw [Bool.or_assoc, Bool.or_assoc, Bool.or_comm (x.tabs.any _)]
     clear hfb ho
     go_wp2
     go_ret
     exact ⟨rfl, HF3⟩
end
end Go.Proofs.YtlcglapcmdpkfaaGreat
