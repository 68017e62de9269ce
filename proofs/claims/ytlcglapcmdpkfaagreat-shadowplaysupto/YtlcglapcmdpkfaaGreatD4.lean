import Derived.Test.YtlcglapcmdpkfaaGreatTk
import Derived.Test.YtlcglapcmdpkfaaGreatD3
namespace Go.Proofs.YtlcglapcmdpkfaaGreat
open Go.RowKit
set_option linter.unusedSimpArgs false
set_option linter.unusedVariables false
theorem info71 : (Tryz.prog.info? 119).map (fun i => (i.zero, i.size, i.bytes)) = some (some (.agg (wrL 0 (fun _ => 0) (fun _ => 0)).toArray), 65, 72) := by kernel_rfl
theorem arrayAt68 (a : Addr) (bc : Nat) (w : World) : (Instr.arrayAt 67 (.slice (some a) 32 bc)).run Tryz.prog w = .ok (.pointer (some a)) w := by kernel_rfl
theorem alloc71 (w : World) : (Instr.alloc 119 true (.tuple #[])).run Tryz.prog w = .ok (.pointer (some ⟨w.heap.size, 0, none⟩)) (w.alloc (.cells (wrL 0 (fun _ => 0) (fun _ => 0)).toArray 119)) := by kernel_rfl
theorem slice71 (s : Int) (f g : Nat → Int) (w : World) : (Instr.buildSlice 52 1 #[(0, .agg (wrL s f g).toArray)]).run Tryz.prog w = .ok (.slice (some ⟨w.heap.size, 0, none⟩) 1 1) (w.alloc (.cells (wrL s f g).toArray 119)) := by kernel_rfl
theorem load63 (a : Addr) (v : Value) (w : World) (h : w.cell? a = some v) : (Instr.loadAt 52 (.pointer (some a))).run Tryz.prog w = .ok v w := by go_simp
set_option maxRecDepth 100000 in
set_option maxHeartbeats 1600000 in
theorem write_core (p S n c k g o bc m B : Nat) (l : Int) (pv : Value) (old new wr xs : List Value) (w : World) (R : Ending → World → Prop)
  (h0 : w.cell? ⟨p, 0, none⟩ = some (.slice (some ⟨S, 0, none⟩) n c)) (h1 : w.cell? ⟨p, 1, none⟩ = some pv) (h2 : w.cell? ⟨p, 2, none⟩ = some (.int .i64 l)) (hf1 : w.frozen? ⟨p, 1, none⟩ = false) (hl : (l == 0) = false) (hk2 : (k : Int) < n)
  (lo : old.length = 32) (ln : new.length = 32) (lw : wr.length = 65) (on : ∀ v ∈ new, v.oneCell' = true) (ow : ∀ v ∈ wr, v.oneCell' = true) (hwn : wr.drop 33 = new)
  (hold : w.rangeAt S (k * 32) old) (hnew : w.rangeAt g o new) (ht : w.there S (k * 32) 32) (hpS : p ≠ S)
  (hown : w.ownsRow B 119 65 pv m xs) (ap : pv.ownBlock ≠ some p) (aS : pv.ownBlock ≠ some S) (hB : B ≤ w.heap.size) (hm : m + 1 ≤ maxLen) (hby : (m + 1) * 72 ≤ 140737488355328)
  (hb : ∀ w, (Instr.build 119 #[(0, .int .i64 k), (1, .agg old.toArray), (2, .agg new.toArray)]).run Tryz.prog w = .ok (.agg wr.toArray) w)
  (hbs : ∀ w, (Instr.buildSlice 52 1 #[(0, .agg wr.toArray)]).run Tryz.prog w = .ok (.slice (some ⟨w.heap.size, 0, none⟩) 1 1) (w.alloc (.cells wr.toArray 119)))
  (hrest : ∀ (gg cap : Nat) (w1 w3 : World), Only (fun i => i = S) w w1 → w1.rangeAt S (k * 32) new → (∀ o' cs, w.rangeAt S o' cs → o' + cs.length ≤ k * 32 ∨ k * 32 + 32 ≤ o' → w1.rangeAt S o' cs) → (∀ o' q, w.there S o' q → w1.there S o' q) →
    w1.grownBy w3 pv.ownBlock → w3.ownsRow B 119 65 (.slice (some ⟨gg, 0, none⟩) (m + 1) cap) (m + 1) (xs ++ wr) → (pv.ownBlock = some gg ∨ w.heap.size ≤ gg) → gg < w3.heap.size →
    Calls Tryz.prog 70 #[.pointer (some ⟨p, 0, none⟩)] (w3.setCell ⟨p, 1, none⟩ (.slice (some ⟨gg, 0, none⟩) (m + 1) cap)) fun e w' => e = .returned (.tuple #[]) ∧ R (.returned (.int .i64 0)) w') :
  Calls Tryz.prog 40 #[.pointer (some ⟨p, 0, none⟩), .int .i64 k, .slice (some ⟨g, o, none⟩) 32 bc] w R := by
 have hk : (0 : Int) ≤ (k : Int) := Int.natCast_nonneg _
 have hu := Tryz.underlying67
 have hu71 := Tryz.underlying119
 have hio : (Tryz.prog.info? 67).map (·.size) = some old.length := by rw [size68, lo]
 have hin : (Tryz.prog.info? 67).map (·.size) = some new.length := by rw [size68, ln]
 have hiw : (Tryz.prog.info? 119).map (·.size) = some wr.length := by rw [size71, lw]
 have hsa := arrayAt68
 have lp := World.block_lt_of_cell? w _ h0
 have lS : S < w.heap.size := by
  obtain ⟨u, hu'⟩ := Option.isSome_iff_exists.1 (ht 0 (by omega)).1
  exact World.block_lt_of_cell? w _ hu'
 obtain ⟨i0, hi0, hz0, hz1, hz2⟩ := info_parts info71
 have aB0 : ∀ q, pv.ownBlock = some q → q < w.heap.size := fun q hq => (hown.lt q hq).2
 have HR : Hid _ := hrest
 clear hrest
 go_enter Tryz.func40, Tryz.ntmps40
 go_wp2_with (first | (go_at_call 27; refine (reach_ok p S n c l k _ ‹_› ‹_› hl hk hk2).mono ?_; rintro e wq ⟨rfl, hwq⟩; have hwq2 := hwq.symm; clear hwq; subst hwq2))
 refine wp_region_noPanic ?_
 refine wp_region_held_drew (S := fun w' => w'.cell? ⟨p, 0, none⟩ = some (.slice (some ⟨S, 0, none⟩) n c) ∧ w'.rangeAt S (k * 32) old ∧ w'.rangeAt g o new) (by kernel_rfl) ?_ (fun hHeld => ?_)
 ·exact ⟨by simpa using h0, by simpa using hold, by simpa using hnew⟩
 refine t8 (i := 0) (v := .int .i64 k) rfl hHeld ?_
 simp only [Act.put, z9]
 refine t8 (i := 1) (v := .pointer (some ⟨p, 0, none⟩)) rfl hHeld ?_
 simp only [Act.put, z9]
 refine t8 (i := 2) (v := .pointer (some ⟨p, 0, none⟩)) rfl hHeld ?_
 simp only [Act.put, z9]
 refine t8 (i := 3) (v := .pointer (some ⟨p, 0, none⟩)) rfl hHeld ?_
 simp only [Act.put, z9]
 refine t8 (i := 4) (v := .slice (some ⟨S, 0, none⟩) n c) rfl hHeld ?_
 simp only [Act.put, z9]
 refine t8 (i := 5) (v := .int .i64 k) rfl hHeld ?_
 simp only [Act.put, z9]
 refine t8 (i := 6) (v := .pointer (some ⟨S, k * 32, none⟩)) rfl hHeld ?_
 simp only [Act.put, z9]
 refine wpAnyH_take (i := 7) (v := .agg old.toArray) rfl (by kernel_rfl) (by kernel_rfl) (by kernel_rfl) (fun _ _ _ h => h) (yieldsIf_load_mid (by rfl) 67 _ rfl S (k * 32) rfl old _ (fun wx hSw => hSw.2.1) hu rfl hio) hHeld ?_
 simp only [Act.put, z9]
 refine t8 (i := 8) (v := .slice (some ⟨g, o, none⟩) 32 bc) rfl hHeld ?_
 simp only [Act.put, z9]
 refine t8 (i := 9) (v := .pointer (some ⟨g, o, none⟩)) rfl hHeld ?_
 simp only [Act.put, z9]
 refine wpAnyH_take (i := 10) (v := .agg new.toArray) rfl (by kernel_rfl) (by kernel_rfl) (by kernel_rfl) (fun _ _ _ h => h) (yieldsIf_load_mid (by rfl) 67 _ rfl g o rfl new _ (fun wx hSw => hSw.2.2) hu rfl hin) hHeld ?_
 simp only [Act.put, z9]
 refine wpAnyH_take (i := 11) (v := .agg wr.toArray) rfl (by kernel_rfl) (by kernel_rfl) (by kernel_rfl) (fun _ _ _ h => h) (yields_value (s := Instr.build 119 #[(0, .int .i64 k), (1, .agg old.toArray), (2, .agg new.toArray)]) (by rfl) (by simp only [List.getElem_toArray, List.getElem_cons_succ, List.getElem_cons_zero, execOp, List.map_toArray, List.map_cons, List.map_nil]; rfl) (fun wx _ => hb wx)) hHeld ?_
 simp only [Act.put, z9]
 refine wpAnyH_ready (rs := [12]) (by kernel_rfl) (by simp) ?_
 refine AllReadyH.cons rfl (fun K hK => ?_) AllReadyH.nil
 rw [if_pos (by rfl)]
 refine wp_value rfl (alloc71 _) ?_
 refine hK.out _ _ ⟨World.cell?_alloc_some _ _ _ (by simp [h0]) |>.trans (by simpa using h0), World.rangeAt_alloc (by simpa using hold) _, World.rangeAt_alloc (by simpa using hnew) _⟩ (fun hHeld => ?_)
 clear hK K
 simp only [Act.put, z9]
 refine wpAnyH_ready (rs := [13]) (by kernel_rfl) (by simp) ?_
 refine AllReadyH.cons rfl (fun K hK => ?_) AllReadyH.nil
 rw [if_pos (by rfl)]
 refine wp_unit rfl (run_storeAt_new _ 119 _ wr.toArray (by rw [size71]; simp [lw]) (by simp [lw, wrL_length]) (all_oneCell_toArray ow)) ?_
 refine hK.out _ _ ⟨World.cell?_alloc_some _ _ _ (by simp [h0]) |>.trans (by simpa using h0), World.rangeAt_alloc (by simpa using hold) _, World.rangeAt_alloc (by simpa using hnew) _⟩ (fun hHeld => ?_)
 clear hK K hHeld
 simp only [Act.put, z9]
 refine wpAnyH_done (by kernel_rfl) ?_ _
 refine NoPanic.normal ?_
 obtain ⟨w0, hw0⟩ : ∃ x, x = w.drew.alloc (.cells wr.toArray 119) := ⟨_, rfl⟩
 obtain ⟨N, hN⟩ : ∃ x, x = w.heap.size := ⟨_, rfl⟩
 have o0 : Only (fun i => i = S) w w0 := by rw [hw0]; exact (Only.refl _ w).drew.alloc _
 have a0 : w0.cell? ⟨p, 0, none⟩ = some (.slice (some ⟨S, 0, none⟩) n c) := o0.cell h0 hpS
 have a1 : w0.cell? ⟨p, 1, none⟩ = some pv := o0.cell h1 hpS
 have af : w0.frozen? ⟨p, 1, none⟩ = false := (o0.frozen lp hpS).trans hf1
 have at0 : ∀ o' q, w.there S o' q → w0.there S o' q := fun o' q h => by rw [hw0]; exact World.there_alloc (by simpa using h) _
 have ar0 : ∀ o' cs, w.rangeAt S o' cs → w0.rangeAt S o' cs := fun o' cs h => by rw [hw0]; exact World.rangeAt_alloc (by simpa using h) _
 have hNb : w0.heap[N]? = some (.cells wr.toArray 119 (0, 0)) := by rw [hw0, hN]; exact heap_alloc_new w.drew _
 have aw : w0.rangeAt N 0 wr := fun j v hv => by rw [cell_of_row w0 N (0 + j) _ _ _ hNb]; simpa using hv
 have an : w0.rangeAt N 33 new := fun j v hv => by
  rw [cell_of_row w0 N (33 + j) _ _ _ hNb]
  rw [← hwn, List.getElem?_drop] at hv
  simpa using hv
 have hNl : N < w0.heap.size := by rw [hw0, hN]; simp
 have own0 : w0.ownsRow B 119 65 pv m xs := by rw [hw0]; exact (hown.drew).alloc _
 have hNS : N ≠ S := by omega
 have hNp : N ≠ p := by omega
 have hNw : w.drew.heap.size = N := by rw [hN]; rfl
 have hNge : w.heap.size ≤ N := by omega
 rw [← hw0, hNw]
 clear hw0 hNw hN hNb
 have O0 : Hid (Only (fun i => i = S) w w0) := o0
 have AT : Hid (∀ o' q, w.there S o' q → w0.there S o' q) := at0
 have AR : Hid (∀ o' cs, w.rangeAt S o' cs → w0.rangeAt S o' cs) := ar0
 have ht0 := at0 _ _ ht
 clear o0 at0 ar0 hb h0 h1 hold hnew ht hown hf1
 go_wp2
 go_region_held3 (fun w' => w'.cell? ⟨p, 0, none⟩ = some (.slice (some ⟨S, 0, none⟩) n c) ∧ w'.rangeAt N 33 new ∧ w'.there S (k * 32) 32)
  (first
   | go_keep_ranges
   | (go_split_ands
      refine ⟨(World.cell?_setCells_out _ _ _ _ _ (fun h => absurd h hpS)).trans (by assumption), World.rangeAt_setCells_apart (by assumption) _ _ _ (Or.inl hNS), World.there_setCells (by assumption) _ _ _⟩)) (fail)
 obtain ⟨w1, hw1⟩ : ∃ x, x = w0.drew.setCells S (k * 32) new := ⟨_, rfl⟩
 have o1 : Only (fun i => i = S) w w1 := by rw [hw1]; exact O0.out.drew.setCells _ _ _ (fun _ => rfl)
 have b1 : w1.cell? ⟨p, 1, none⟩ = some pv := by rw [hw1]; exact (World.cell?_setCells_out _ _ _ _ _ (fun h => absurd h hpS)).trans (by simpa using a1)
 have bf : w1.frozen? ⟨p, 1, none⟩ = false := by rw [hw1, World.frozen?_setCells]; simpa using af
 have bw : w1.rangeAt N 0 wr := by rw [hw1]; exact World.rangeAt_setCells_apart (by simpa using aw) _ _ _ (Or.inl hNS)
 have bS : w1.rangeAt S (k * 32) new := by rw [hw1]; exact World.rangeAt_setCells_same _ _ _ _ (by rw [ln]; simpa using ht0)
 have bA : ∀ o' cs, w.rangeAt S o' cs → o' + cs.length ≤ k * 32 ∨ k * 32 + 32 ≤ o' → w1.rangeAt S o' cs := fun o' cs h hx => by
  rw [hw1]; exact World.rangeAt_setCells_apart (by simpa using AR.out o' cs h) _ _ _ (by rw [ln]; omega)
 have bT : ∀ o' q, w.there S o' q → w1.there S o' q := fun o' q h => by rw [hw1]; exact World.there_setCells (by simpa using AT.out o' q h) _ _ _
 have own1 : w1.ownsRow B 119 65 pv m xs := by
  have oo : Only (fun i => i = S) w0 w1 := by rw [hw1]; exact (Only.refl _ w0).drew.setCells _ _ _ (fun _ => rfl)
  exact oo.owns own0 (fun q hq e => aS (by rw [hq, e]))
 have hNl1 : N < w1.heap.size := by rw [hw1, (setCells_same S new (k * 32) w0.drew).2.2.2]; exact hNl
 have aB : ∀ q, pv.ownBlock = some q → q < w.heap.size := aB0
 have hB1 : B ≤ w1.heap.size := by have := o1.size; omega
 rw [← hw1]
 have O1 : Hid (Only (fun i => i = S) w w1) := o1
 clear hw1 o1 O0 AT AR ht0 own0 aw an a0 a1 af hsa
 go_wp2
 refine wp_region_noPanic ?_
 refine wp_region_held_drew (S := fun w' => w'.rangeAt N 0 wr) (by kernel_rfl) (by simpa using bw) (fun hHeld => ?_)
 refine t8 (i := 0) (v := .pointer (some ⟨p, 0, none⟩)) rfl hHeld ?_
 simp only [Act.put, z9]
 refine t8 (i := 1) (v := .pointer (some ⟨p, 0, none⟩)) rfl hHeld ?_
 simp only [Act.put, z9]
 refine t8 (i := 2) (v := .pointer (some ⟨p, 0, none⟩)) rfl hHeld ?_
 simp only [Act.put, z9]
 refine t8 (i := 3) (v := .pointer (some ⟨p, 1, none⟩)) rfl hHeld ?_
 simp only [Act.put, z9]
 refine wpAnyH_take (i := 5) (v := .agg wr.toArray) rfl (by kernel_rfl) (by kernel_rfl) (by kernel_rfl) (fun _ _ _ h => h) (yieldsIf_load_mid (by rfl) 119 _ rfl N 0 rfl wr _ (fun wx hSw => hSw) hu71 rfl hiw) hHeld ?_
 simp only [Act.put, z9]
 refine wpAnyH_ready (rs := [4, 6]) (by kernel_rfl) (by simp) ?_
 refine AllReadyH.cons rfl (fun K hK => ?_) (AllReadyH.cons rfl (fun K hK => ?_) AllReadyH.nil)
 ·rw [if_pos (by rfl)]
  refine wp_value rfl (load63 ⟨p, 1, none⟩ pv w1.drew (by simpa using b1)) ?_
  refine hK.out _ _ (by simpa using bw) (fun hHeld => ?_)
  clear hK K
  simp only [Act.put, z9]
  refine wpAnyH_ready (rs := [6]) (by kernel_rfl) (by simp) ?_
  refine AllReadyH.cons rfl (fun K hK => ?_) AllReadyH.nil
  rw [if_pos (by rfl)]
  refine wp_value (s := Instr.buildSlice 52 1 #[(0, .agg wr.toArray)]) (by simp only [List.getElem_toArray, List.getElem_cons_succ, List.getElem_cons_zero, execOp, List.map_toArray, List.map_cons, List.map_nil]; rfl) (hbs _) ?_
  refine hK.out _ _ (World.rangeAt_alloc (by simpa using bw) _) (fun hHeld => ?_)
  clear hK K
  simp only [Act.put, z9]
  refine wpAnyH_ready (rs := [7]) (by kernel_rfl) (by simp) ?_
  refine AllReadyH.cons rfl (fun K hK => ?_) AllReadyH.nil
  refine step_append_lies _ (by rfl) _ _ _ (by rfl) B 119 i0 _ 65 72 Tryz.underlying52 hi0 hz0 hz1 hz2 (by simp [wrL_length, Value.cells]) (by omega) pv m xs (by rfl) ((own1.drew).alloc _)
    ⟨w1.drew.heap.size, 0, none⟩ 1 1 wr (by rfl) (by simp [lw]) (World.news_of_block (cs := wr.toArray) (t := 119) (fr := (0, 0)) (heap_alloc_new w1.drew _)) ow
    (by omega) hm hby (by simp; omega) (w1.heap.size + 1) (by simp) ?_
  intro gg cap w3 own3 hgrow hat hlt
  have gN : some N ≠ pv.ownBlock := fun e => by have := aB N e.symm; omega
  have hgr : w1.grownBy w3 pv.ownBlock := ⟨hgrow.os, hgrow.tape, hgrow.output, by have := hgrow.size; simp at this; omega, fun q hq hn => (hgrow.block q (by simp; omega) hn).trans (Below.heap_alloc _ _ _ hq)⟩
  refine hK.out _ _ (fun j v hv => hgr.cell (a := ⟨N, 0 + j, none⟩) (bw j v hv) gN) (fun hHeld => ?_)
  clear hK K
  simp only [Act.put, z9]
  refine t8 (i := 8) (v := .pointer (some ⟨p, 0, none⟩)) rfl hHeld ?_
  simp only [Act.put, z9]
  refine t8 (i := 9) (v := .pointer (some ⟨p, 1, none⟩)) rfl hHeld ?_
  simp only [Act.put, z9]
  refine wpAnyH_ready (rs := [10]) (by kernel_rfl) (by simp) ?_
  refine AllReadyH.cons rfl (fun K hK => ?_) AllReadyH.nil
  rw [if_pos (by rfl)]
  have d1 : w3.cell? ⟨p, 1, none⟩ = some pv := hgr.cell b1 (Ne.symm ap)
  have df : w3.frozen? ⟨p, 1, none⟩ = false := (hgr.frozen_far ⟨p, 1, none⟩ (World.block_lt_of_cell? w1 _ b1) (Ne.symm ap)).trans bf
  refine wp_unit (w' := w3.setCell ⟨p, 1, none⟩ (.slice (some ⟨gg, 0, none⟩) (m + 1) cap)) rfl (s := Instr.storeAt 52 (.pointer (some ⟨p, 1, none⟩)) (.slice (some ⟨gg, 0, none⟩) (m + 1) cap)) (by go_simp) ?_
  refine hK.out _ _ (fun j v hv => (World.cell?_setCell_other _ _ _ _ (fun e => hNp (by injection e with e; exact e.symm))).trans (hHeld j v hv)) (fun hHeld => ?_)
  clear hK K
  simp only [Act.put, z9]
  refine wpAnyH_done (by kernel_rfl) ?_ _
  refine NoPanic.normal ?_
  have HC := HR.out gg cap w1 w3 O1.out bS bA bT hgr own3 (hat.imp id (fun e => by omega)) hlt
  go_wp2_with (go_at_call 70; refine HC.mono ?_; rintro e wq ⟨rfl, hRq⟩)
  exact hRq
 ·rw [if_pos (by rfl)]
  refine wp_value (s := Instr.buildSlice 52 1 #[(0, .agg wr.toArray)]) (by simp only [List.getElem_toArray, List.getElem_cons_succ, List.getElem_cons_zero, execOp, List.map_toArray, List.map_cons, List.map_nil]; rfl) (hbs _) ?_
  refine hK.out _ _ (World.rangeAt_alloc (by simpa using bw) _) (fun hHeld => ?_)
  clear hK K
  simp only [Act.put, z9]
  refine wpAnyH_ready (rs := [4]) (by kernel_rfl) (by simp) ?_
  refine AllReadyH.cons rfl (fun K hK => ?_) AllReadyH.nil
  rw [if_pos (by rfl)]
  refine wp_value rfl (load63 ⟨p, 1, none⟩ pv (w1.drew.alloc (.cells wr.toArray 119)) ((World.cell?_alloc_some _ _ _ (by simp [b1])).trans (by simpa using b1))) ?_
  refine hK.out _ _ (World.rangeAt_alloc (by simpa using bw) _) (fun hHeld => ?_)
  clear hK K
  simp only [Act.put, z9]
  refine wpAnyH_ready (rs := [7]) (by kernel_rfl) (by simp) ?_
  refine AllReadyH.cons rfl (fun K hK => ?_) AllReadyH.nil
  refine step_append_lies _ (by rfl) _ _ _ (by rfl) B 119 i0 _ 65 72 Tryz.underlying52 hi0 hz0 hz1 hz2 (by simp [wrL_length, Value.cells]) (by omega) pv m xs (by rfl) ((own1.drew).alloc _)
    ⟨w1.drew.heap.size, 0, none⟩ 1 1 wr (by rfl) (by simp [lw]) (World.news_of_block (cs := wr.toArray) (t := 119) (fr := (0, 0)) (heap_alloc_new w1.drew _)) ow
    (by omega) hm hby (by simp; omega) (w1.heap.size + 1) (by simp) ?_
  intro gg cap w3 own3 hgrow hat hlt
  have gN : some N ≠ pv.ownBlock := fun e => by have := aB N e.symm; omega
  have hgr : w1.grownBy w3 pv.ownBlock := ⟨hgrow.os, hgrow.tape, hgrow.output, by have := hgrow.size; simp at this; omega, fun q hq hn => (hgrow.block q (by simp; omega) hn).trans (Below.heap_alloc _ _ _ hq)⟩
  refine hK.out _ _ (fun j v hv => hgr.cell (a := ⟨N, 0 + j, none⟩) (bw j v hv) gN) (fun hHeld => ?_)
  clear hK K
  simp only [Act.put, z9]
  refine t8 (i := 8) (v := .pointer (some ⟨p, 0, none⟩)) rfl hHeld ?_
  simp only [Act.put, z9]
  refine t8 (i := 9) (v := .pointer (some ⟨p, 1, none⟩)) rfl hHeld ?_
  simp only [Act.put, z9]
  refine wpAnyH_ready (rs := [10]) (by kernel_rfl) (by simp) ?_
  refine AllReadyH.cons rfl (fun K hK => ?_) AllReadyH.nil
  rw [if_pos (by rfl)]
  have d1 : w3.cell? ⟨p, 1, none⟩ = some pv := hgr.cell b1 (Ne.symm ap)
  have df : w3.frozen? ⟨p, 1, none⟩ = false := (hgr.frozen_far ⟨p, 1, none⟩ (World.block_lt_of_cell? w1 _ b1) (Ne.symm ap)).trans bf
  refine wp_unit (w' := w3.setCell ⟨p, 1, none⟩ (.slice (some ⟨gg, 0, none⟩) (m + 1) cap)) rfl (s := Instr.storeAt 52 (.pointer (some ⟨p, 1, none⟩)) (.slice (some ⟨gg, 0, none⟩) (m + 1) cap)) (by go_simp) ?_
  refine hK.out _ _ (fun j v hv => (World.cell?_setCell_other _ _ _ _ (fun e => hNp (by injection e with e; exact e.symm))).trans (hHeld j v hv)) (fun hHeld => ?_)
  clear hK K
  simp only [Act.put, z9]
  refine wpAnyH_done (by kernel_rfl) ?_ _
  refine NoPanic.normal ?_
  have HC := HR.out gg cap w1 w3 O1.out bS bA bT hgr own3 (hat.imp id (fun e => by omega)) hlt
  go_wp2_with (go_at_call 70; refine HC.mono ?_; rintro e wq ⟨rfl, hRq⟩)
  exact hRq
def aged (l : Int) : Int := if l = -1 then -1 else l - 1
theorem age_any (p : Nat) (l : Int) (w : World) (h2 : w.cell? ⟨p, 2, none⟩ = some (.int .i64 l)) (hf : w.frozen? ⟨p, 2, none⟩ = false) (hl : -1 ≤ l) (hl2 : l ≤ 9223372036854775807) :
  Calls Tryz.prog 70 #[.pointer (some ⟨p, 0, none⟩)] w fun e w' => e = .returned (.tuple #[]) ∧ w'.cell? ⟨p, 2, none⟩ = some (.int .i64 (aged l)) ∧ w'.frozen? ⟨p, 2, none⟩ = false ∧ (∀ a, a ≠ ⟨p, 2, none⟩ → w'.cell? a = w.cell? a) ∧ (∀ a, w'.frozen? a = w.frozen? a) ∧ Only (fun i => i = p) w w' := by
 by_cases e : l = -1
 ·subst e
  refine (age_end p w h2).mono ?_
  rintro e w' ⟨rfl, rfl⟩
  exact ⟨rfl, h2, hf, fun _ _ => rfl, fun _ => rfl, Only.refl _ _⟩
 ·refine (age_less p l w h2 hf (by omega) hl2).mono ?_
  rintro e' w' ⟨rfl, rfl⟩
  refine ⟨rfl, ?_, ?_, ?_, ?_, (Only.refl _ _).setCell _ _ (fun _ => rfl)⟩
  ·rw [World.cell?_setCell_same _ _ _ h2]; simp [aged, e]
  ·simpa using hf
  ·intro a ha; exact World.cell?_setCell_other _ _ _ _ (fun h => ha h.symm)
  ·intro a; simp
theorem write_ok (p S k g o bc B : Nat) (pv : Value) (d : DS) (f : Nat → Int) (w : World) (h : DiskAt w B p S pv d) (hl : d.life ≠ 0) (hk : k < d.n) (hf : w.rangeAt g o (secL f)) (hB : B ≤ w.heap.size) (hby : (d.pend.length + 1) * 72 ≤ 140737488355328) :
  Calls Tryz.prog 40 #[.pointer (some ⟨p, 0, none⟩), .int .i64 k, .slice (some ⟨g, o, none⟩) 32 bc] w fun e w' => e = .returned (.int .i64 0) ∧ ∃ pv', DiskAt w' B p S pv' { d with sec := upd d.sec k f, pend := d.pend ++ [⟨k, d.sec k, f⟩], life := aged d.life } ∧ Only (diskB p S pv) w w' ∧ (∀ b, pv'.ownBlock = some b → pv.ownBlock = some b ∨ w.heap.size ≤ b) := by
 obtain ⟨c, hc0⟩ := h.c0
 have hlt := h.lt
 refine write_core p S d.n c k g o bc d.pend.length B d.life pv (secL (d.sec k)) (secL f) (wrL k (d.sec k) f) (wrsL d.pend) w _ hc0 h.c1 h.c2 h.f1 (by simpa using hl) (by omega) (secL_length _) (secL_length _) (wrL_length _ _ _) (secL_one _) (wrL_one _ _ _)
  (by simp [wrL, List.drop_append, secL_length]) (h.secs k hk).1 hf (h.secs k hk).2 h.pS h.own h.hp h.hS hB (by unfold maxLen; omega) hby (fun w => build_wr _ _ _ w) (fun w => slice71 _ _ _ w) ?_
 intro gg cap w1 w3 o1 r1 ra rt hg own3 hat hlt3
 have hpS := h.pS
 have o3 : Only (diskB p S pv) w w3 := (o1.mono (fun q _ e => .inr (.inl e))).grown hg (fun q e _ => .inr (.inr e))
 have np : some p ≠ pv.ownBlock := Ne.symm h.hp
 have nS : some S ≠ pv.ownBlock := Ne.symm h.hS
 have e0 : w3.cell? ⟨p, 0, none⟩ = _ := hg.cell (o1.cell hc0 hpS) np
 have e1 : w3.cell? ⟨p, 1, none⟩ = _ := hg.cell (o1.cell h.c1 hpS) np
 have e2 : w3.cell? ⟨p, 2, none⟩ = _ := hg.cell (o1.cell h.c2 hpS) np
 have lp : p < w.heap.size := World.block_lt_of_cell? w _ h.c1
 have lp1 : p < w1.heap.size := Nat.lt_of_lt_of_le lp o1.size
 have g1 : w3.frozen? ⟨p, 1, none⟩ = false := (hg.frozen_far ⟨p, 1, none⟩ lp1 np).trans ((o1.frozen lp hpS).trans h.f1)
 have g2 : w3.frozen? ⟨p, 2, none⟩ = false := (hg.frozen_far ⟨p, 2, none⟩ lp1 np).trans ((o1.frozen lp hpS).trans h.f2)
 have gp : gg ≠ p := fun e => by rcases hat with hat | hat; exact h.hp (by rw [hat, e]); omega
 have gS : gg ≠ S := fun e => by rcases hat with hat | hat; exact h.hS (by rw [hat, e]); have := hlt S (.inr (.inl rfl)); omega
 have o13 : Only (fun q => pv.ownBlock = some q) w1 w3 := (Only.refl _ w1).grown hg (fun q e _ => e)
 refine (age_any p d.life _ ((World.cell?_setCell_other _ _ _ _ (by simp)).trans e2) (by simpa using g2) h.l1 h.l2).mono ?_
 rintro e w' ⟨rfl, c2, f2, hcell, hfr, oA⟩
 have s1 : Only (fun i => i = p) w3 w' := ((Only.refl (fun i => i = p) w3).setCell _ _ (fun _ => rfl)).trans oA (fun _ _ e => e)
 refine ⟨rfl, rfl, .slice (some ⟨gg, 0, none⟩) (d.pend.length + 1) cap, ?_, o3.trans s1 (fun i _ e => .inl e), ?_⟩
 ·exact { pB := h.pB, SB := h.SB, pS := h.pS
          c0 := ⟨c, by rw [hcell _ (by simp), World.cell?_setCell_other _ _ _ _ (by simp)]; exact e0⟩
          c1 := by rw [hcell _ (by simp), World.cell?_setCell_same _ _ _ e1]
          c2 := c2
          f1 := by rw [hfr]; simpa using g1
          f2 := f2
          secs := fun i hi => by
           have hr := (h.secs i hi).1
           have ht := (h.secs i hi).2
           refine ⟨s1.range (o13.range ?_ (fun e => h.hS e)) (fun e => hpS e.symm), s1.there (o13.there (rt _ _ ht) (fun e => h.hS e)) (fun e => hpS e.symm)⟩
           by_cases e : i = k
           ·subst e; simpa [upd] using r1
           ·simp only [upd, if_neg e]
            exact ra _ _ hr (by rw [secL_length]; omega)
          own := by
           have := s1.owns own3 (fun q hq e => gp (by simp [Value.ownBlock] at hq; omega))
           simpa [wrsL_snoc, Wr.cells] using this
          hp := by simpa [Value.ownBlock] using gp
          hS := by simpa [Value.ownBlock] using gS
          n1 := h.n1, n2 := h.n2
          at_ := fun x hx => by
           rcases List.mem_append.1 hx with hx | hx
           ·exact h.at_ x hx
           ·simp at hx; subst hx; exact hk
          l1 := by have := h.l1; simp only [aged]; split <;> omega
          l2 := by have := h.l2; simp only [aged]; split <;> omega }
 ·intro b hb
  simp [Value.ownBlock] at hb
  subst hb
  exact hat
end Go.Proofs.YtlcglapcmdpkfaaGreat
