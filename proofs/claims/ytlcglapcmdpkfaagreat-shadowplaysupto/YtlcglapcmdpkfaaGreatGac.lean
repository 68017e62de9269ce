/-     -/
import Derived.Test.YtlcglapcmdpkfaaGreatGaa
import Derived.Test.YtlcglapcmdpkfaaGreatGab
import Derived.RangeFuncNested
import Derived.RangeFuncBound
import Derived.RangeFuncCalls
import Derived.RangeFuncLeaves
import Derived.Shelf.Abstract
import Derived.Shelf.RegionOpen
import Derived.OwnWalkIn
import Derived.TacticsInMore
import Derived.LoopNIn
import Derived.LoopIn
namespace Go.Proofs.YtlcglapcmdpkfaaGreat
open Go.RowKit
set_option linter.unusedSimpArgs false
set_option linter.unusedVariables false
set_option maxRecDepth 100000
set_option maxHeartbeats 16000000
theorem info71 : (Tryz.prog.info? 119).map (fun i => (i.zero, i.size, i.bytes)) = some (some (.agg (wrL 0 (fun _ => 0) (fun _ => 0)).toArray), 65, 72) := by kernel_rfl
theorem arrayAt68 (a : Addr) (bc : Nat) (w : World) : (Instr.arrayAt 67 (.slice (some a) 32 bc)).run Tryz.prog w = .ok (.pointer (some a)) w := by kernel_rfl
theorem alloc71 (w : World) : (Instr.alloc 119 true (.tuple #[])).run Tryz.prog w = .ok (.pointer (some ⟨w.heap.size, 0, none⟩)) (w.alloc (.cells (wrL 0 (fun _ => 0) (fun _ => 0)).toArray 119)) := by kernel_rfl
theorem slice71 (s : Int) (f g : Nat → Int) (w : World) : (Instr.buildSlice 52 1 #[(0, .agg (wrL s f g).toArray)]).run Tryz.prog w = .ok (.slice (some ⟨w.heap.size, 0, none⟩) 1 1) (w.alloc (.cells (wrL s f g).toArray 119)) := by kernel_rfl
theorem load63 (a : Addr) (v : Value) (w : World) (h : w.cell? a = some v) : (Instr.loadAt 52 (.pointer (some a))).run Tryz.prog w = .ok v w := by go_simp
theorem write_core (p S n c k g o bc m B : Nat) (l : Int) (pv : Value) (old new wr xs : List Value) (w : World) (R : Ending → World → Prop)
  (h0 : w.cell? ⟨p, 0, none⟩ = some (.slice (some ⟨S, 0, none⟩) n c)) (h1 : w.cell? ⟨p, 1, none⟩ = some pv) (h2 : w.cell? ⟨p, 2, none⟩ = some (.int .i64 l)) (hf1 : w.frozen? ⟨p, 1, none⟩ = false) (hl : (l == 0) = false) (hk2 : (k : Int) < n)
  (lo : old.length = 32) (ln : new.length = 32) (lw : wr.length = 65) (on : ∀ v ∈ new, v.oneCell' = true) (ow : ∀ v ∈ wr, v.oneCell' = true) (hwn : wr.drop 33 = new)
  (hold : w.rangeAt S (k * 32) old) (hnew : w.rangeAt g o new) (ht : w.there S (k * 32) 32) (hpS : p ≠ S)
  (hown : w.ownsRow B 119 65 pv m xs) (ap : pv.ownBlock ≠ some p) (aS : pv.ownBlock ≠ some S) (hB : B ≤ w.heap.size) (hm : m + 1 ≤ maxLen) (hby : (m + 1) * 72 ≤ 140737488355328)
  (hb : ∀ w, (Instr.build 119 #[(0, .int .i64 k), (1, .agg old.toArray), (2, .agg new.toArray)]).run Tryz.prog w = .ok (.agg wr.toArray) w)
  (hbs : ∀ w, (Instr.buildSlice 52 1 #[(0, .agg wr.toArray)]).run Tryz.prog w = .ok (.slice (some ⟨w.heap.size, 0, none⟩) 1 1) (w.alloc (.cells wr.toArray 119)))
  (hrest : ∀ (gg cap : Nat) (w1 w3 : World), Only (fun i => i = S) w w1 → w1.rangeAt S (k * 32) new → (∀ o' cs, w.rangeAt S o' cs → o' + cs.length ≤ k * 32 ∨ k * 32 + 32 ≤ o' → w1.rangeAt S o' cs) → (∀ o' q, w.there S o' q → w1.there S o' q) →
    w1.grownBy w3 pv.ownBlock → w3.ownsRow B 119 65 (.slice (some ⟨gg, 0, none⟩) (m + 1) cap) (m + 1) (xs ++ wr) → (pv.ownBlock = some gg ∨ w.heap.size ≤ gg) → gg < w3.heap.size →
    Calls Tryz.prog 70 #[.pointer (some ⟨p, 0, none⟩)] (w3.setCell ⟨p, 1, none⟩ (.slice (some ⟨gg, 0, none⟩) (m + 1) cap)) fun e w' => e = .returned (.tuple #[]) ∧ R (.returned (.int .i64 0)) w') :
  Calls Tryz.prog 40 #[.pointer (some ⟨p, 0, none⟩), .int .i64 k, .slice (some ⟨g, o, none⟩) 32 bc] w R := by
 have hk : (0 : Int) ≤ (k : Int) := Int.natCast_nonneg _
 have hu := Tryz.underlying67
 have hu71 := Tryz.underlying119
 have hio : (Tryz.prog.info? 67).map (·.size) = some old.length := by rw [size68, lo]
 have hin : (Tryz.prog.info? 67).map (·.size) = some new.length := by rw [size68, ln]
 have hiw : (Tryz.prog.info? 119).map (·.size) = some wr.length := by rw [size71, lw]
 have hsa := arrayAt68
 have lp := World.block_lt_of_cell? w _ h0
 have lS : S < w.heap.size := by
  obtain ⟨u, hu'⟩ := Option.isSome_iff_exists.1 (ht 0 (by omega)).1
  exact World.block_lt_of_cell? w _ hu'
 obtain ⟨i0, hi0, hz0, hz1, hz2⟩ := info_parts info71
 have aB0 : ∀ q, pv.ownBlock = some q → q < w.heap.size := fun q hq => (hown.lt q hq).2
 have HR : Hid _ := hrest
 clear hrest
 go_enter Tryz.func40, Tryz.ntmps40
 go_wp2_with (first | (go_at_call 27; refine (reach_ok p S n c l k _ ‹_› ‹_› hl hk hk2).mono ?_; rintro e wq ⟨rfl, hwq⟩; have hwq2 := hwq.symm; clear hwq; subst hwq2))
 refine wp_region_noPanic ?_
 refine wp_region_held_drew (S := fun w' => w'.cell? ⟨p, 0, none⟩ = some (.slice (some ⟨S, 0, none⟩) n c) ∧ w'.rangeAt S (k * 32) old ∧ w'.rangeAt g o new) (by kernel_rfl) ?_ (fun hHeld => ?_)
 ·exact ⟨by simpa using h0, by simpa using hold, by simpa using hnew⟩
 refine t8 (i := 0) (v := .int .i64 k) rfl hHeld ?_
 simp only [Act.put, z9]
 refine t8 (i := 1) (v := .pointer (some ⟨p, 0, none⟩)) rfl hHeld ?_
 simp only [Act.put, z9]
 refine t8 (i := 2) (v := .pointer (some ⟨p, 0, none⟩)) rfl hHeld ?_
 simp only [Act.put, z9]
 refine t8 (i := 3) (v := .pointer (some ⟨p, 0, none⟩)) rfl hHeld ?_
 simp only [Act.put, z9]
 refine t8 (i := 4) (v := .slice (some ⟨S, 0, none⟩) n c) rfl hHeld ?_
 simp only [Act.put, z9]
 refine t8 (i := 5) (v := .int .i64 k) rfl hHeld ?_
 simp only [Act.put, z9]
 refine t8 (i := 6) (v := .pointer (some ⟨S, k * 32, none⟩)) rfl hHeld ?_
 simp only [Act.put, z9]
 refine wpAnyH_take (i := 7) (v := .agg old.toArray) rfl (by kernel_rfl) (by kernel_rfl) (by kernel_rfl) (fun _ _ _ h => h) (yieldsIf_load_mid (by rfl) 67 _ rfl S (k * 32) rfl old _ (fun wx hSw => hSw.2.1) hu rfl hio) hHeld ?_
 simp only [Act.put, z9]
 refine t8 (i := 8) (v := .slice (some ⟨g, o, none⟩) 32 bc) rfl hHeld ?_
 simp only [Act.put, z9]
 refine t8 (i := 9) (v := .pointer (some ⟨g, o, none⟩)) rfl hHeld ?_
 simp only [Act.put, z9]
 refine wpAnyH_take (i := 10) (v := .agg new.toArray) rfl (by kernel_rfl) (by kernel_rfl) (by kernel_rfl) (fun _ _ _ h => h) (yieldsIf_load_mid (by rfl) 67 _ rfl g o rfl new _ (fun wx hSw => hSw.2.2) hu rfl hin) hHeld ?_
 simp only [Act.put, z9]
 refine wpAnyH_take (i := 11) (v := .agg wr.toArray) rfl (by kernel_rfl) (by kernel_rfl) (by kernel_rfl) (fun _ _ _ h => h) (yields_value (s := Instr.build 119 #[(0, .int .i64 k), (1, .agg old.toArray), (2, .agg new.toArray)]) (by rfl) (by simp only [List.getElem_toArray, List.getElem_cons_succ, List.getElem_cons_zero, execOp, List.map_toArray, List.map_cons, List.map_nil]; rfl) (fun wx _ => hb wx)) hHeld ?_
 simp only [Act.put, z9]
 refine wpAnyH_ready (rs := [12]) (by kernel_rfl) (by simp) ?_
 refine AllReadyH.cons rfl (fun K hK => ?_) AllReadyH.nil
 rw [if_pos (by rfl)]
 refine wp_value rfl (alloc71 _) ?_
 refine hK.out _ _ ⟨World.cell?_alloc_some _ _ _ (by simp [h0]) |>.trans (by simpa using h0), World.rangeAt_alloc (by simpa using hold) _, World.rangeAt_alloc (by simpa using hnew) _⟩ (fun hHeld => ?_)
 clear hK K
 simp only [Act.put, z9]
 refine wpAnyH_ready (rs := [13]) (by kernel_rfl) (by simp) ?_
 refine AllReadyH.cons rfl (fun K hK => ?_) AllReadyH.nil
 rw [if_pos (by rfl)]
 refine wp_unit rfl (run_storeAt_new _ 119 _ wr.toArray (by rw [size71]; simp [lw]) (by simp [lw, wrL_length]) (all_oneCell_toArray ow)) ?_
 refine hK.out _ _ ⟨World.cell?_alloc_some _ _ _ (by simp [h0]) |>.trans (by simpa using h0), World.rangeAt_alloc (by simpa using hold) _, World.rangeAt_alloc (by simpa using hnew) _⟩ (fun hHeld => ?_)
 clear hK K hHeld
 simp only [Act.put, z9]
 refine wpAnyH_done (by kernel_rfl) ?_ _
 refine NoPanic.normal ?_
 obtain ⟨w0, hw0⟩ : ∃ x, x = w.drew.alloc (.cells wr.toArray 119) := ⟨_, rfl⟩
 obtain ⟨N, hN⟩ : ∃ x, x = w.heap.size := ⟨_, rfl⟩
 have o0 : Only (fun i => i = S) w w0 := by rw [hw0]; exact (Only.refl _ w).drew.alloc _
 have a0 : w0.cell? ⟨p, 0, none⟩ = some (.slice (some ⟨S, 0, none⟩) n c) := o0.cell h0 hpS
 have a1 : w0.cell? ⟨p, 1, none⟩ = some pv := o0.cell h1 hpS
 have af : w0.frozen? ⟨p, 1, none⟩ = false := (o0.frozen lp hpS).trans hf1
 have at0 : ∀ o' q, w.there S o' q → w0.there S o' q := fun o' q h => by rw [hw0]; exact World.there_alloc (by simpa using h) _
 have ar0 : ∀ o' cs, w.rangeAt S o' cs → w0.rangeAt S o' cs := fun o' cs h => by rw [hw0]; exact World.rangeAt_alloc (by simpa using h) _
 have hNb : w0.heap[N]? = some (.cells wr.toArray 119 (0, 0)) := by rw [hw0, hN]; exact heap_alloc_new w.drew _
 have aw : w0.rangeAt N 0 wr := fun j v hv => by rw [cell_of_row w0 N (0 + j) _ _ _ hNb]; simpa using hv
 have an : w0.rangeAt N 33 new := fun j v hv => by
  rw [cell_of_row w0 N (33 + j) _ _ _ hNb]
  rw [← hwn, List.getElem?_drop] at hv
  simpa using hv
 have hNl : N < w0.heap.size := by rw [hw0, hN]; simp
 have own0 : w0.ownsRow B 119 65 pv m xs := by rw [hw0]; exact (hown.drew).alloc _
 have hNS : N ≠ S := by omega
 have hNp : N ≠ p := by omega
 have hNw : w.drew.heap.size = N := by rw [hN]; rfl
 have hNge : w.heap.size ≤ N := by omega
 rw [← hw0, hNw]
 clear hw0 hNw hN hNb
 have O0 : Hid (Only (fun i => i = S) w w0) := o0
 have AT : Hid (∀ o' q, w.there S o' q → w0.there S o' q) := at0
 have AR : Hid (∀ o' cs, w.rangeAt S o' cs → w0.rangeAt S o' cs) := ar0
 have ht0 := at0 _ _ ht
 clear o0 at0 ar0 hb h0 h1 hold hnew ht hown hf1
 go_wp2
 go_region_held3 (fun w' => w'.cell? ⟨p, 0, none⟩ = some (.slice (some ⟨S, 0, none⟩) n c) ∧ w'.rangeAt N 33 new ∧ w'.there S (k * 32) 32)
  (first
   | go_keep_ranges
   | (go_split_ands
      refine ⟨(World.cell?_setCells_out _ _ _ _ _ (fun h => absurd h hpS)).trans (by assumption), World.rangeAt_setCells_apart (by assumption) _ _ _ (Or.inl hNS), World.there_setCells (by assumption) _ _ _⟩)) (fail)
 obtain ⟨w1, hw1⟩ : ∃ x, x = w0.drew.setCells S (k * 32) new := ⟨_, rfl⟩
 have o1 : Only (fun i => i = S) w w1 := by rw [hw1]; exact O0.out.drew.setCells _ _ _ (fun _ => rfl)
 have b1 : w1.cell? ⟨p, 1, none⟩ = some pv := by rw [hw1]; exact (World.cell?_setCells_out _ _ _ _ _ (fun h => absurd h hpS)).trans (by simpa using a1)
 have bf : w1.frozen? ⟨p, 1, none⟩ = false := by rw [hw1, World.frozen?_setCells]; simpa using af
 have bw : w1.rangeAt N 0 wr := by rw [hw1]; exact World.rangeAt_setCells_apart (by simpa using aw) _ _ _ (Or.inl hNS)
 have bS : w1.rangeAt S (k * 32) new := by rw [hw1]; exact World.rangeAt_setCells_same _ _ _ _ (by rw [ln]; simpa using ht0)
 have bA : ∀ o' cs, w.rangeAt S o' cs → o' + cs.length ≤ k * 32 ∨ k * 32 + 32 ≤ o' → w1.rangeAt S o' cs := fun o' cs h hx => by
  rw [hw1]; exact World.rangeAt_setCells_apart (by simpa using AR.out o' cs h) _ _ _ (by rw [ln]; omega)
 have bT : ∀ o' q, w.there S o' q → w1.there S o' q := fun o' q h => by rw [hw1]; exact World.there_setCells (by simpa using AT.out o' q h) _ _ _
 have own1 : w1.ownsRow B 119 65 pv m xs := by
  have oo : Only (fun i => i = S) w0 w1 := by rw [hw1]; exact (Only.refl _ w0).drew.setCells _ _ _ (fun _ => rfl)
  exact oo.owns own0 (fun q hq e => aS (by rw [hq, e]))
 have hNl1 : N < w1.heap.size := by rw [hw1, (setCells_same S new (k * 32) w0.drew).2.2.2]; exact hNl
 have aB : ∀ q, pv.ownBlock = some q → q < w.heap.size := aB0
 have hB1 : B ≤ w1.heap.size := by have := o1.size; omega
 rw [← hw1]
 have O1 : Hid (Only (fun i => i = S) w w1) := o1
 clear hw1 o1 O0 AT AR ht0 own0 aw an a0 a1 af hsa
 go_wp2
 refine wp_region_noPanic ?_
 refine wp_region_held_drew (S := fun w' => w'.rangeAt N 0 wr) (by kernel_rfl) (by simpa using bw) (fun hHeld => ?_)
 refine t8 (i := 0) (v := .pointer (some ⟨p, 0, none⟩)) rfl hHeld ?_
 simp only [Act.put, z9]
 refine t8 (i := 1) (v := .pointer (some ⟨p, 0, none⟩)) rfl hHeld ?_
 simp only [Act.put, z9]
 refine t8 (i := 2) (v := .pointer (some ⟨p, 0, none⟩)) rfl hHeld ?_
 simp only [Act.put, z9]
 refine t8 (i := 3) (v := .pointer (some ⟨p, 1, none⟩)) rfl hHeld ?_
 simp only [Act.put, z9]
 refine wpAnyH_take (i := 5) (v := .agg wr.toArray) rfl (by kernel_rfl) (by kernel_rfl) (by kernel_rfl) (fun _ _ _ h => h) (yieldsIf_load_mid (by rfl) 119 _ rfl N 0 rfl wr _ (fun wx hSw => hSw) hu71 rfl hiw) hHeld ?_
 simp only [Act.put, z9]
 refine wpAnyH_ready (rs := [4, 6]) (by kernel_rfl) (by simp) ?_
 refine AllReadyH.cons rfl (fun K hK => ?_) (AllReadyH.cons rfl (fun K hK => ?_) AllReadyH.nil)
 ·rw [if_pos (by rfl)]
  refine wp_value rfl (load63 ⟨p, 1, none⟩ pv w1.drew (by simpa using b1)) ?_
  refine hK.out _ _ (by simpa using bw) (fun hHeld => ?_)
  clear hK K
  simp only [Act.put, z9]
  refine wpAnyH_ready (rs := [6]) (by kernel_rfl) (by simp) ?_
  refine AllReadyH.cons rfl (fun K hK => ?_) AllReadyH.nil
  rw [if_pos (by rfl)]
  refine wp_value (s := Instr.buildSlice 52 1 #[(0, .agg wr.toArray)]) (by simp only [List.getElem_toArray, List.getElem_cons_succ, List.getElem_cons_zero, execOp, List.map_toArray, List.map_cons, List.map_nil]; rfl) (hbs _) ?_
  refine hK.out _ _ (World.rangeAt_alloc (by simpa using bw) _) (fun hHeld => ?_)
  clear hK K
  simp only [Act.put, z9]
  refine wpAnyH_ready (rs := [7]) (by kernel_rfl) (by simp) ?_
  refine AllReadyH.cons rfl (fun K hK => ?_) AllReadyH.nil
  refine step_append_lies _ (by rfl) _ _ _ (by rfl) B 119 i0 _ 65 72 Tryz.underlying52 hi0 hz0 hz1 hz2 (by simp [wrL_length, Value.cells]) (by omega) pv m xs (by rfl) ((own1.drew).alloc _)
    ⟨w1.drew.heap.size, 0, none⟩ 1 1 wr (by rfl) (by simp [lw]) (World.news_of_block (cs := wr.toArray) (t := 119) (fr := (0, 0)) (heap_alloc_new w1.drew _)) ow
    (by omega) hm hby (by simp; omega) (w1.heap.size + 1) (by simp) ?_
  intro gg cap w3 own3 hgrow hat hlt
  have gN : some N ≠ pv.ownBlock := fun e => by have := aB N e.symm; omega
  have hgr : w1.grownBy w3 pv.ownBlock := ⟨hgrow.os, hgrow.tape, hgrow.output, by have := hgrow.size; simp at this; omega, fun q hq hn => (hgrow.block q (by simp; omega) hn).trans (Below.heap_alloc _ _ _ hq)⟩
  refine hK.out _ _ (fun j v hv => hgr.cell (a := ⟨N, 0 + j, none⟩) (bw j v hv) gN) (fun hHeld => ?_)
  clear hK K
  simp only [Act.put, z9]
  refine t8 (i := 8) (v := .pointer (some ⟨p, 0, none⟩)) rfl hHeld ?_
  simp only [Act.put, z9]
  refine t8 (i := 9) (v := .pointer (some ⟨p, 1, none⟩)) rfl hHeld ?_
  simp only [Act.put, z9]
  refine wpAnyH_ready (rs := [10]) (by kernel_rfl) (by simp) ?_
  refine AllReadyH.cons rfl (fun K hK => ?_) AllReadyH.nil
  rw [if_pos (by rfl)]
  have d1 : w3.cell? ⟨p, 1, none⟩ = some pv := hgr.cell b1 (Ne.symm ap)
  have df : w3.frozen? ⟨p, 1, none⟩ = false := (hgr.frozen_far ⟨p, 1, none⟩ (World.block_lt_of_cell? w1 _ b1) (Ne.symm ap)).trans bf
  refine wp_unit (w' := w3.setCell ⟨p, 1, none⟩ (.slice (some ⟨gg, 0, none⟩) (m + 1) cap)) rfl (s := Instr.storeAt 52 (.pointer (some ⟨p, 1, none⟩)) (.slice (some ⟨gg, 0, none⟩) (m + 1) cap)) (by go_simp) ?_
  refine hK.out _ _ (fun j v hv => (World.cell?_setCell_other _ _ _ _ (fun e => hNp (by injection e with e; exact e.symm))).trans (hHeld j v hv)) (fun hHeld => ?_)
  clear hK K
  simp only [Act.put, z9]
  refine wpAnyH_done (by kernel_rfl) ?_ _
  refine NoPanic.normal ?_
  have HC := HR.out gg cap w1 w3 O1.out bS bA bT hgr own3 (hat.imp id (fun e => by omega)) hlt
  go_wp2_with (go_at_call 70; refine HC.mono ?_; rintro e wq ⟨rfl, hRq⟩)
  exact hRq
 ·rw [if_pos (by rfl)]
  refine wp_value (s := Instr.buildSlice 52 1 #[(0, .agg wr.toArray)]) (by simp only [List.getElem_toArray, List.getElem_cons_succ, List.getElem_cons_zero, execOp, List.map_toArray, List.map_cons, List.map_nil]; rfl) (hbs _) ?_
  refine hK.out _ _ (World.rangeAt_alloc (by simpa using bw) _) (fun hHeld => ?_)
  clear hK K
  simp only [Act.put, z9]
  refine wpAnyH_ready (rs := [4]) (by kernel_rfl) (by simp) ?_
  refine AllReadyH.cons rfl (fun K hK => ?_) AllReadyH.nil
  rw [if_pos (by rfl)]
  refine wp_value rfl (load63 ⟨p, 1, none⟩ pv (w1.drew.alloc (.cells wr.toArray 119)) ((World.cell?_alloc_some _ _ _ (by simp [b1])).trans (by simpa using b1))) ?_
  refine hK.out _ _ (World.rangeAt_alloc (by simpa using bw) _) (fun hHeld => ?_)
  clear hK K
  simp only [Act.put, z9]
  refine wpAnyH_ready (rs := [7]) (by kernel_rfl) (by simp) ?_
  refine AllReadyH.cons rfl (fun K hK => ?_) AllReadyH.nil
  refine step_append_lies _ (by rfl) _ _ _ (by rfl) B 119 i0 _ 65 72 Tryz.underlying52 hi0 hz0 hz1 hz2 (by simp [wrL_length, Value.cells]) (by omega) pv m xs (by rfl) ((own1.drew).alloc _)
    ⟨w1.drew.heap.size, 0, none⟩ 1 1 wr (by rfl) (by simp [lw]) (World.news_of_block (cs := wr.toArray) (t := 119) (fr := (0, 0)) (heap_alloc_new w1.drew _)) ow
    (by omega) hm hby (by simp; omega) (w1.heap.size + 1) (by simp) ?_
  intro gg cap w3 own3 hgrow hat hlt
  have gN : some N ≠ pv.ownBlock := fun e => by have := aB N e.symm; omega
  have hgr : w1.grownBy w3 pv.ownBlock := ⟨hgrow.os, hgrow.tape, hgrow.output, by have := hgrow.size; simp at this; omega, fun q hq hn => (hgrow.block q (by simp; omega) hn).trans (Below.heap_alloc _ _ _ hq)⟩
  refine hK.out _ _ (fun j v hv => hgr.cell (a := ⟨N, 0 + j, none⟩) (bw j v hv) gN) (fun hHeld => ?_)
  clear hK K
  simp only [Act.put, z9]
  refine t8 (i := 8) (v := .pointer (some ⟨p, 0, none⟩)) rfl hHeld ?_
  simp only [Act.put, z9]
  refine t8 (i := 9) (v := .pointer (some ⟨p, 1, none⟩)) rfl hHeld ?_
  simp only [Act.put, z9]
  refine wpAnyH_ready (rs := [10]) (by kernel_rfl) (by simp) ?_
  refine AllReadyH.cons rfl (fun K hK => ?_) AllReadyH.nil
  rw [if_pos (by rfl)]
  have d1 : w3.cell? ⟨p, 1, none⟩ = some pv := hgr.cell b1 (Ne.symm ap)
  have df : w3.frozen? ⟨p, 1, none⟩ = false := (hgr.frozen_far ⟨p, 1, none⟩ (World.block_lt_of_cell? w1 _ b1) (Ne.symm ap)).trans bf
  refine wp_unit (w' := w3.setCell ⟨p, 1, none⟩ (.slice (some ⟨gg, 0, none⟩) (m + 1) cap)) rfl (s := Instr.storeAt 52 (.pointer (some ⟨p, 1, none⟩)) (.slice (some ⟨gg, 0, none⟩) (m + 1) cap)) (by go_simp) ?_
  refine hK.out _ _ (fun j v hv => (World.cell?_setCell_other _ _ _ _ (fun e => hNp (by injection e with e; exact e.symm))).trans (hHeld j v hv)) (fun hHeld => ?_)
  clear hK K
  simp only [Act.put, z9]
  refine wpAnyH_done (by kernel_rfl) ?_ _
  refine NoPanic.normal ?_
  have HC := HR.out gg cap w1 w3 O1.out bS bA bT hgr own3 (hat.imp id (fun e => by omega)) hlt
  go_wp2_with (go_at_call 70; refine HC.mono ?_; rintro e wq ⟨rfl, hRq⟩)
  exact hRq
def aged (l : Int) : Int := if l = -1 then -1 else l - 1
theorem age_any (p : Nat) (l : Int) (w : World) (h2 : w.cell? ⟨p, 2, none⟩ = some (.int .i64 l)) (hf : w.frozen? ⟨p, 2, none⟩ = false) (hl : -1 ≤ l) (hl2 : l ≤ 9223372036854775807) :
  Calls Tryz.prog 70 #[.pointer (some ⟨p, 0, none⟩)] w fun e w' => e = .returned (.tuple #[]) ∧ w'.cell? ⟨p, 2, none⟩ = some (.int .i64 (aged l)) ∧ w'.frozen? ⟨p, 2, none⟩ = false ∧ (∀ a, a ≠ ⟨p, 2, none⟩ → w'.cell? a = w.cell? a) ∧ (∀ a, w'.frozen? a = w.frozen? a) ∧ Only (fun i => i = p) w w' := by
 by_cases e : l = -1
 ·subst e
  refine (age_end p w h2).mono ?_
  rintro e w' ⟨rfl, rfl⟩
  exact ⟨rfl, h2, hf, fun _ _ => rfl, fun _ => rfl, Only.refl _ _⟩
 ·refine (age_less p l w h2 hf (by omega) hl2).mono ?_
  rintro e' w' ⟨rfl, rfl⟩
  refine ⟨rfl, ?_, ?_, ?_, ?_, (Only.refl _ _).setCell _ _ (fun _ => rfl)⟩
  ·rw [World.cell?_setCell_same _ _ _ h2]; simp [aged, e]
  ·simpa using hf
  ·intro a ha; exact World.cell?_setCell_other _ _ _ _ (fun h => ha h.symm)
  ·intro a; simp
theorem write_ok (p S k g o bc B : Nat) (pv : Value) (d : DS) (f : Nat → Int) (w : World) (h : DiskAt w B p S pv d) (hl : d.life ≠ 0) (hk : k < d.n) (hf : w.rangeAt g o (secL f)) (hB : B ≤ w.heap.size) (hby : (d.pend.length + 1) * 72 ≤ 140737488355328) :
  Calls Tryz.prog 40 #[.pointer (some ⟨p, 0, none⟩), .int .i64 k, .slice (some ⟨g, o, none⟩) 32 bc] w fun e w' => e = .returned (.int .i64 0) ∧ ∃ pv', DiskAt w' B p S pv' { d with sec := upd d.sec k f, pend := d.pend ++ [⟨k, d.sec k, f⟩], life := aged d.life } ∧ Only (diskB p S pv) w w' ∧ (∀ b, pv'.ownBlock = some b → pv.ownBlock = some b ∨ w.heap.size ≤ b) := by
 obtain ⟨c, hc0⟩ := h.c0
 have hlt := h.lt
 refine write_core p S d.n c k g o bc d.pend.length B d.life pv (secL (d.sec k)) (secL f) (wrL k (d.sec k) f) (wrsL d.pend) w _ hc0 h.c1 h.c2 h.f1 (by simpa using hl) (by omega) (secL_length _) (secL_length _) (wrL_length _ _ _) (secL_one _) (wrL_one _ _ _)
  (by simp [wrL, List.drop_append, secL_length]) (h.secs k hk).1 hf (h.secs k hk).2 h.pS h.own h.hp h.hS hB (by unfold maxLen; omega) hby (fun w => build_wr _ _ _ w) (fun w => slice71 _ _ _ w) ?_
 intro gg cap w1 w3 o1 r1 ra rt hg own3 hat hlt3
 have hpS := h.pS
 have o3 : Only (diskB p S pv) w w3 := (o1.mono (fun q _ e => .inr (.inl e))).grown hg (fun q e _ => .inr (.inr e))
 have np : some p ≠ pv.ownBlock := Ne.symm h.hp
 have nS : some S ≠ pv.ownBlock := Ne.symm h.hS
 have e0 : w3.cell? ⟨p, 0, none⟩ = _ := hg.cell (o1.cell hc0 hpS) np
 have e1 : w3.cell? ⟨p, 1, none⟩ = _ := hg.cell (o1.cell h.c1 hpS) np
 have e2 : w3.cell? ⟨p, 2, none⟩ = _ := hg.cell (o1.cell h.c2 hpS) np
 have lp : p < w.heap.size := World.block_lt_of_cell? w _ h.c1
 have lp1 : p < w1.heap.size := Nat.lt_of_lt_of_le lp o1.size
 have g1 : w3.frozen? ⟨p, 1, none⟩ = false := (hg.frozen_far ⟨p, 1, none⟩ lp1 np).trans ((o1.frozen lp hpS).trans h.f1)
 have g2 : w3.frozen? ⟨p, 2, none⟩ = false := (hg.frozen_far ⟨p, 2, none⟩ lp1 np).trans ((o1.frozen lp hpS).trans h.f2)
 have gp : gg ≠ p := fun e => by rcases hat with hat | hat; exact h.hp (by rw [hat, e]); omega
 have gS : gg ≠ S := fun e => by rcases hat with hat | hat; exact h.hS (by rw [hat, e]); have := hlt S (.inr (.inl rfl)); omega
 have o13 : Only (fun q => pv.ownBlock = some q) w1 w3 := (Only.refl _ w1).grown hg (fun q e _ => e)
 refine (age_any p d.life _ ((World.cell?_setCell_other _ _ _ _ (by simp)).trans e2) (by simpa using g2) h.l1 h.l2).mono ?_
 rintro e w' ⟨rfl, c2, f2, hcell, hfr, oA⟩
 have s1 : Only (fun i => i = p) w3 w' := ((Only.refl (fun i => i = p) w3).setCell _ _ (fun _ => rfl)).trans oA (fun _ _ e => e)
 refine ⟨rfl, rfl, .slice (some ⟨gg, 0, none⟩) (d.pend.length + 1) cap, ?_, o3.trans s1 (fun i _ e => .inl e), ?_⟩
 ·exact { pB := h.pB, SB := h.SB, pS := h.pS
          c0 := ⟨c, by rw [hcell _ (by simp), World.cell?_setCell_other _ _ _ _ (by simp)]; exact e0⟩
          c1 := by rw [hcell _ (by simp), World.cell?_setCell_same _ _ _ e1]
          c2 := c2
          f1 := by rw [hfr]; simpa using g1
          f2 := f2
          secs := fun i hi => by
           have hr := (h.secs i hi).1
           have ht := (h.secs i hi).2
           refine ⟨s1.range (o13.range ?_ (fun e => h.hS e)) (fun e => hpS e.symm), s1.there (o13.there (rt _ _ ht) (fun e => h.hS e)) (fun e => hpS e.symm)⟩
           by_cases e : i = k
           ·subst e; simpa [upd] using r1
           ·simp only [upd, if_neg e]
            exact ra _ _ hr (by rw [secL_length]; omega)
          own := by
           have := s1.owns own3 (fun q hq e => gp (by simp [Value.ownBlock] at hq; omega))
           simpa [wrsL_snoc, Wr.cells] using this
          hp := by simpa [Value.ownBlock] using gp
          hS := by simpa [Value.ownBlock] using gS
          n1 := h.n1, n2 := h.n2
          at_ := fun x hx => by
           rcases List.mem_append.1 hx with hx | hx
           ·exact h.at_ x hx
           ·simp at hx; subst hx; exact hk
          l1 := by have := h.l1; simp only [aged]; split <;> omega
          l2 := by have := h.l2; simp only [aged]; split <;> omega }
 ·intro b hb
  simp [Value.ownBlock] at hb
  subst hb
  exact hat
theorem info68 : (Tryz.prog.info? 67).map (fun i => (i.zero, i.size, i.bytes)) = some (some (.agg (secL (fun _ => 0)).toArray), 32, 32) := by kernel_rfl
theorem new_bad (n : Int) (w : World) (h : n < 1 ∨ 8192 < n) :
  Calls Tryz.prog 5 #[.int .i64 n] w fun e w' => e = .returned (.tuple #[.pointer none, .int .i64 2]) ∧ w' = w := by
 rcases h with h | h
 ·go_enter Tryz.func5, Tryz.ntmps5
  go_wp2
  go_ret2
  exact ⟨rfl, rfl⟩
 ·have h' : ¬ n < 1 := by omega
  go_enter Tryz.func5, Tryz.ntmps5
  go_wp2
  go_ret2
  exact ⟨rfl, rfl⟩
theorem new_core (n : Nat) (A : Array Value) (w : World) (h1 : (1 : Int) ≤ n) (h2 : (n : Int) ≤ 8192)
  (hmk : ∀ w, (Instr.makeSlice 51 (.int .i64 n) (.int .i64 n)).run Tryz.prog w = .ok (.slice (some ⟨w.heap.size, 0, none⟩) n n) (w.alloc (.cells A 67))) :
  Calls Tryz.prog 5 #[.int .i64 n] w fun e w' => e = .returned (.tuple #[.pointer (some ⟨w.heap.size + 1, 0, none⟩), .int .i64 0]) ∧
   w' = (w.alloc (.cells A 67)).alloc (.cells #[.slice (some ⟨w.heap.size, 0, none⟩) n n, .slice none 0 0, .int .i64 (-1)] 54) := by
 have h1' : ¬ (n : Int) < 1 := by omega
 have h2' : ¬ (8192 : Int) < n := by omega
 go_enter Tryz.func5, Tryz.ntmps5
 go_wp2
 go_ret2
 exact ⟨rfl, rfl⟩
theorem new_ok (n : Nat) (w : World) (h1 : 1 ≤ n) (h2 : n ≤ 8192) :
  Calls Tryz.prog 5 #[.int .i64 n] w fun e w' => e = .returned (.tuple #[.pointer (some ⟨w.heap.size + 1, 0, none⟩), .int .i64 0]) ∧
   DiskAt w' w.heap.size (w.heap.size + 1) w.heap.size (.slice none 0 0) ⟨n, fun _ _ => 0, [], -1⟩ ∧ Only (fun _ => False) w w' ∧ w'.heap.size = w.heap.size + 2 := by
 obtain ⟨i0, hi0, hz0, hz1, hz2⟩ := info_parts info68
 refine (new_core n _ w (by omega) (by omega) (fun w => run_make w 51 67 i0 _ Tryz.underlying51 hi0 hz0 .i64 .i64 n n (by omega) (Int.le_refl _) (by rw [hz2]; omega) (by omega))).mono ?_
 rintro e w' ⟨rfl, rfl⟩
 rw [hz1, Int.toNat_natCast]
 refine ⟨rfl, ?_, ((Only.refl _ w).alloc _).alloc _, by simp⟩
 have hS : ((w.alloc (.cells (madeCells (Value.agg (secL (fun _ => 0)).toArray).cells (n * 32)) 67)).alloc (.cells #[.slice (some ⟨w.heap.size, 0, none⟩) n n, .slice none 0 0, .int .i64 (-1)] 54)).heap[w.heap.size]? = some (.cells (madeCells (Value.agg (secL (fun _ => 0)).toArray).cells (n * 32)) 67 (0, 0)) := heap_alloc2_old w _ _
 have hp : ((w.alloc (.cells (madeCells (Value.agg (secL (fun _ => 0)).toArray).cells (n * 32)) 67)).alloc (.cells #[.slice (some ⟨w.heap.size, 0, none⟩) n n, .slice none 0 0, .int .i64 (-1)] 54)).heap[w.heap.size + 1]? = some (.cells #[.slice (some ⟨w.heap.size, 0, none⟩) n n, .slice none 0 0, .int .i64 (-1)] 54 (0, 0)) := heap_alloc2_new w _ _
 have hcell : ∀ j, j < n * 32 → (madeCells (Value.agg (secL (fun _ => 0)).toArray).cells (n * 32))[j]? = some (.int .u8 0) := by
  intro j hj
  have hm : j % 32 < 32 := Nat.mod_lt _ (by omega)
  have : (secL (fun _ => 0))[j % 32]? = some (.int .u8 0) := secL_get _ _ hm
  simp [madeCells, hj, Value.cells, secL_length, this]
 exact { pB := by omega, SB := by omega, pS := by omega
         c0 := ⟨n, by rw [cell_of_row _ _ 0 _ _ _ hp]; rfl⟩
         c1 := by rw [cell_of_row _ _ 1 _ _ _ hp]; rfl
         c2 := by rw [cell_of_row _ _ 2 _ _ _ hp]; rfl
         f1 := frozen_of_row _ _ _ _ _ hp
         f2 := frozen_of_row _ _ _ _ _ hp
         secs := fun i hi => by
          constructor
          ·intro j v hv
           have hj : j < 32 := by have := (List.getElem?_eq_some_iff.1 hv).1; rwa [secL_length] at this
           rw [secL_get _ _ hj] at hv
           rw [cell_of_row _ _ _ _ _ _ hS, hcell _ (by simp at hi; omega)]
           exact hv
          ·intro j hj
           refine ⟨?_, frozen_of_row _ _ _ _ _ hS⟩
           rw [cell_of_row _ _ _ _ _ _ hS, hcell _ (by simp at hi; omega)]; rfl
         own := World.ownsRow_nil _ _ _ _
         hp := by simp [Value.ownBlock]
         hS := by simp [Value.ownBlock]
         n1 := h1, n2 := h2
         at_ := fun x hx => by cases hx
         l1 := by simp
         l2 := by simp }
theorem read_any (p S k B : Nat) (pv : Value) (d : DS) (w : World) (h : DiskAt w B p S pv d) (hl : d.life ≠ 0) (hk : k < d.n) :
  Calls Tryz.prog 8 #[.pointer (some ⟨p, 0, none⟩), .int .i64 k] w fun e w' => e = .returned (.tuple #[.slice (some ⟨w.heap.size, 0, none⟩) 32 32, .int .i64 0]) ∧ w' = w.alloc (.cells (secL (d.sec k)).toArray 67) := by
 obtain ⟨c, hc⟩ := h.c0
 exact read_ok p S d.n c k d.life (secL (d.sec k)) w hc h.c2 (by simpa using hl) (by omega) (secL_length _) (secL_one _) (h.secs k hk).1
theorem read_dead (p : Nat) (k : Int) (w : World) (h2 : w.cell? ⟨p, 2, none⟩ = some (.int .i64 0)) :
  Calls Tryz.prog 8 #[.pointer (some ⟨p, 0, none⟩), .int .i64 k] w fun e w' => e = .returned (.tuple #[.slice none 0 0, .int .i64 3]) ∧ w' = w := by
 go_enter Tryz.func8, Tryz.ntmps8
 go_wp2_with (go_at_call 27; refine (reach_dead p k _ h2).mono ?_; rintro e w' ⟨rfl, rfl⟩)
 go_ret2
 exact ⟨rfl, rfl⟩
theorem write_len (p : Value) (k : Int) (a : Option Addr) (n c : Nat) (w : World) (hn : ((n : Int) == 32) = false) :
  Calls Tryz.prog 40 #[p, .int .i64 k, .slice a n c] w fun e w' => e = .returned (.int .i64 2) ∧ w' = w := by
 go_enter Tryz.func40, Tryz.ntmps40
 go_wp2
 go_ret
 exact ⟨rfl, rfl⟩
theorem write_dead (p c : Nat) (a : Option Addr) (k : Int) (w : World) (h2 : w.cell? ⟨p, 2, none⟩ = some (.int .i64 0)) :
  Calls Tryz.prog 40 #[.pointer (some ⟨p, 0, none⟩), .int .i64 k, .slice a 32 c] w fun e w' => e = .returned (.int .i64 3) ∧ w' = w := by
 go_enter Tryz.func40, Tryz.ntmps40
 go_wp2_with (go_at_call 27; refine (reach_dead p k _ h2).mono ?_; rintro e w' ⟨rfl, rfl⟩)
 go_ret
 exact ⟨rfl, rfl⟩
theorem write_out (p S n c bc : Nat) (a : Option Addr) (l k : Int) (w : World) (h0 : w.cell? ⟨p, 0, none⟩ = some (.slice (some ⟨S, 0, none⟩) n c)) (h2 : w.cell? ⟨p, 2, none⟩ = some (.int .i64 l)) (hl : (l == 0) = false) (hk : k < 0 ∨ n ≤ k) :
  Calls Tryz.prog 40 #[.pointer (some ⟨p, 0, none⟩), .int .i64 k, .slice a 32 bc] w fun e w' => e = .returned (.int .i64 4) ∧ w' = w := by
 go_enter Tryz.func40, Tryz.ntmps40
 go_wp2_with (go_at_call 27; refine (reach_out p S n c l k _ h0 h2 hl hk).mono ?_; rintro e w' ⟨rfl, rfl⟩)
 go_ret
 exact ⟨rfl, rfl⟩
def fullF (z : Nat → Int) (k : Nat) : Nat → Int := fun j => if j < k then z j else 0
theorem fullF_set (z : Nat → Int) (k : Nat) : (secL (fullF z k)).toArray.setIfInBounds k (.int .u8 (z k)) = (secL (fullF z (k + 1))).toArray := by
 apply Array.ext
 ·simp [secL_length]
 ·intro i h1 h2
  simp [secL_length] at h1 h2
  simp [secL, Array.getElem_setIfInBounds, fullF]
  by_cases e : k = i
  ·subst e; simp
  ·simp [e]
   by_cases l : i < k
   ·simp [l]; intro; omega
   ·simp [l]; intro; omega
theorem secL_congr (f g : Nat → Int) (h : ∀ j, j < 32 → f j = g j) : secL f = secL g := by
 simp only [secL]
 apply List.map_congr_left
 intro j hj
 rw [h j (by simpa using hj)]
theorem fullF_big (z : Nat → Int) (n : Nat) (h : 32 ≤ n) : secL (fullF z 32) = secL (fullF z n) :=
 secL_congr _ _ fun j hj => by simp only [fullF]; rw [if_pos hj, if_pos (by omega)]
theorem mk32 (z : Nat → Int) (w : World) : (Instr.makeSlice 37 (.int .i64 32) (.int .i64 32)).run Tryz.prog w = .ok (.slice (some ⟨w.heap.size, 0, none⟩) 32 32) (w.alloc (.cells (secL (fullF z 0)).toArray 5)) := by kernel_rfl
theorem full_core (A : Nat → Array Value) (g o len cap : Nat) (z : Nat → Int) (w : World) (hl : len ≤ maxLen) (hb : ∀ j, j < len → w.cell? ⟨g, o + j, none⟩ = some (.int .u8 (z j))) (hg : g < w.heap.size)
  (hmk : ∀ w, (Instr.makeSlice 37 (.int .i64 32) (.int .i64 32)).run Tryz.prog w = .ok (.slice (some ⟨w.heap.size, 0, none⟩) 32 32) (w.alloc (.cells (A 0) 5))) (hs : ∀ k, (A k).size = 32) (hset : ∀ k, (A k).setIfInBounds k (.int .u8 (z k)) = A (k + 1)) (hbig : 32 ≤ len → A 32 = A len) :
  Calls Tryz.prog 41 #[.slice (some ⟨g, o, none⟩) len cap] w fun e w' => e = .returned (.slice (some ⟨w.heap.size, 0, none⟩) 32 32) ∧ w' = w.alloc (.cells (A len) 5) := by
 unfold maxLen at hl
 have HS : Hid (∀ k, (A k).setIfInBounds k (.int .u8 (z k)) = A (k + 1)) := hset
 have HB : Hid (32 ≤ len → A 32 = A len) := hbig
 clear hset hbig
 go_enter Tryz.func41, Tryz.ntmps41
 go_wp2
 clear hmk
 go_loopw [4] (fun i wr => ∃ k : Nat, k ≤ len ∧ k ≤ 32 ∧ i = .int .i64 k ∧ wr = w.alloc (.cells (A k) 5)) (fun i _ => 32 - (intOf i).toNat)
 case atStart => exact ⟨0, by omega, by omega, rfl, rfl⟩
 case round =>
  obtain ⟨k, hk, hk2, rfl, rfl⟩ := hrel
  by_cases h1 : k < len
  ·by_cases h2 : k < 32
   ·have hc := hb k h1
    clear hb
    have hsz := hs k
    clear hs
    go_wp2
    go_roundw
    case rel => exact ⟨k + 1, by omega, by omega, by go_num, by rw [HS.out]⟩
    case measure => simp [intOf]; omega
   ·have e : k = 32 := by omega
    subst e
    clear hb hs
    go_wp2
    go_ret
    exact ⟨rfl, by rw [HB.out (by omega)]⟩
  ·have e : k = len := by omega
   subst e
   clear hb hs
   go_wp2
   go_ret
   exact ⟨rfl, rfl⟩
theorem full_any (g o len cap : Nat) (z : Nat → Int) (w : World) (hl : len ≤ maxLen) (hb : ∀ j, j < len → w.cell? ⟨g, o + j, none⟩ = some (.int .u8 (z j))) (hg : g < w.heap.size) :
  Calls Tryz.prog 41 #[.slice (some ⟨g, o, none⟩) len cap] w fun e w' => e = .returned (.slice (some ⟨w.heap.size, 0, none⟩) 32 32) ∧ w' = w.alloc (.cells (secL (fullF z len)).toArray 5) :=
 full_core (fun k => (secL (fullF z k)).toArray) g o len cap z w hl hb hg (mk32 z) (fun k => by simp [secL_length]) (fullF_set z) (fun h => by rw [fullF_big z len h])
theorem new_any (n : Nat) (w : World) (h1 : 1 ≤ n) (h2 : n ≤ 8192) :
  Calls Tryz.prog 5 #[.int .i64 n] w fun e w' => ∃ p S, e = .returned (.tuple #[.pointer (some ⟨p, 0, none⟩), .int .i64 0]) ∧
   DiskAt w' w.heap.size p S (.slice none 0 0) ⟨n, fun _ _ => 0, [], -1⟩ ∧ Only (fun _ => False) w w' :=
 (new_ok n w h1 h2).mono fun _ _ h => ⟨_, _, h.1, h.2.1, h.2.2.1⟩
end Go.Proofs.YtlcglapcmdpkfaaGreat
namespace Go.Proofs.YtlcglapcmdpkfaaGreat
open Go.RowKit Go.Shelf
set_option linter.unusedSimpArgs false
set_option linter.unusedVariables false
set_option maxRecDepth 100000
set_option maxHeartbeats 16000000
section
variable {P : Program} {F : Fence} {n : Nat} {ops : Array Oper} {op : Oper} {a : Act} {w w' : World} {K : Act → World → Prop} {Q : Exit → Act → World → Prop}
def calmOp : Op → Bool
 | .move _ | .assign _ | .alloc _ | .load _ _ | .store _ _ _ | .nilCheck _ | .fieldAddr _ _ _ | .indexAddr _ _ _ | .slice _ _ _ _ _ => true
 | _ => false
theorem calm_about (h : calmOp op.op = true) (ρ : Operand → Value) : op.about P w ρ = none := by
 unfold Oper.about
 cases ho : op.op <;> simp [ho, calmOp] at h ⊢
theorem calm_sem (h : calmOp op.op = true) (ro : Option Nat) (ρ : Operand → Value) : Oper.semAt ro ρ op = execOp ρ op :=
 Oper.semAt_eq ro ρ op (fun c hc => by rw [hc] at h; cases h)
theorem wpIn_value {s : Sem Value} {v : Value} (hc : calmOp op.op = true) (ho : execOp a.eval op = (do pure (.value (← s)))) (h : s.run P w = .ok v w') (hk : K (a.put op.dst v) w') : op.wpIn F n P a w K Q := by
 refine ⟨fun f hf => (by rw [calm_about hc] at hf; cases hf), ?_⟩
 rw [calm_sem hc]
 simp only [ho, Sem.run_bind, h, Result.andThen_ok, Sem.run_pure, Oper.uponIn]
 exact hk
theorem wpIn_unit {s : Sem Unit} (hc : calmOp op.op = true) (ho : execOp a.eval op = (do s; pure .skip)) (h : s.run P w = .ok () w') (hk : K (a.put op.dst undef) w') : op.wpIn F n P a w K Q := by
 refine ⟨fun f hf => (by rw [calm_about hc] at hf; cases hf), ?_⟩
 rw [calm_sem hc]
 simp only [ho, Sem.run_bind, h, Result.andThen_ok, Sem.run_pure, Oper.uponIn]
 exact hk
theorem wpListIn_value {rest : List Oper} {s : Sem Value} {v : Value} (hgd : op.guard = none) (hc : calmOp op.op = true) (ho : execOp a.eval op = (do pure (.value (← s)))) (h : s.run P w = .ok v w') (hk : wpListIn F n P ops Q rest (a.put op.dst v) w') : wpListIn F n P ops Q (op :: rest) a w :=
 wpListIn_plain hgd fun _ hK => wpIn_value hc ho h (hK _ _ hk)
theorem wpListIn_unit {rest : List Oper} {s : Sem Unit} (hgd : op.guard = none) (hc : calmOp op.op = true) (ho : execOp a.eval op = (do s; pure .skip)) (h : s.run P w = .ok () w') (hk : wpListIn F n P ops Q rest (a.put op.dst undef) w') : wpListIn F n P ops Q (op :: rest) a w :=
 wpListIn_plain hgd fun _ hK => wpIn_unit hc ho h (hK _ _ hk)
theorem wpListIn_load_mid {rest : List Oper} (hgd : op.guard = none) (ty : TypeId) (x : Operand) (ho : op.op = .load ty x)
  (b o : Nat) (hx : a.eval x = .pointer (some ⟨b, o, none⟩)) (cs : List Value) (d : TypeDesc) (hc : w.rangeAt b o cs)
  (hu : P.underlying ty = some d) (hd : d.isRow = true) (hi : (P.info? ty).map (·.size) = some cs.length)
  (h : wpListIn F n P ops Q rest (a.put op.dst (.agg cs.toArray)) w) : wpListIn F n P ops Q (op :: rest) a w :=
 wpListIn_value hgd (by rw [ho]; rfl) (s := Instr.loadAt ty (.pointer (some ⟨b, o, none⟩))) (by unfold execOp; simp only [ho, hx]) (run_loadAt_mid w b o ty cs d hc hu hd hi) h
theorem wpListIn_storeNew {rest : List Oper} (hgd : op.guard = none) (ty : TypeId) (x y : Operand) (ho : op.op = .store ty x y)
  (w0 : World) (c cells : Array Value) (hx : a.eval x = .pointer (some ⟨w0.heap.size, 0, none⟩)) (hy : a.eval y = .agg cells)
  (hi : (P.info? ty).map (·.size) = some cells.size) (hs : c.size = cells.size) (h1 : cells.all (·.oneCell') = true)
  (h : wpListIn F n P ops Q rest (a.put op.dst undef) (w0.alloc (.cells cells ty))) : wpListIn F n P ops Q (op :: rest) a (w0.alloc (.cells c ty)) :=
 wpListIn_unit hgd (by rw [ho]; rfl) (s := Instr.storeAt ty (.pointer (some ⟨w0.heap.size, 0, none⟩)) (.agg cells)) (by unfold execOp; simp only [ho, hx, hy]) (run_storeAt_new w0 ty c cells hi hs h1) h
theorem wpListIn_alloc {rest : List Oper} (hgd : op.guard = none) (ty : TypeId) (ho : op.op = .alloc ty) (c : Array Value) (hr : (Instr.alloc ty true (.tuple #[])).run P w = .ok (.pointer (some ⟨w.heap.size, 0, none⟩)) (w.alloc (.cells c ty)))
  (h : wpListIn F n P ops Q rest (a.put op.dst (.pointer (some ⟨w.heap.size, 0, none⟩))) (w.alloc (.cells c ty))) : wpListIn F n P ops Q (op :: rest) a w :=
 wpListIn_value hgd (by rw [ho]; rfl) (s := Instr.alloc ty true (.tuple #[])) (by unfold execOp; simp only [ho]) hr h
theorem calm_ok (h : calmOp op.op = true) (ρ : Operand → Value) {x : Next} (hr : (execOp ρ op).run P w = .ok x w') : (∃ v, x = .value v) ∨ x = .skip := by
 have hv : ∀ (s : Sem Value), ((do pure (Next.value (← s)) : Sem Next).run P w = .ok x w') → ∃ v, x = .value v := by
  intro s hs
  rw [Sem.run_bind] at hs
  cases hq : s.run P w with
  | ok v w1 => rw [hq] at hs; simp [Result.andThen, Sem.run_pure] at hs; exact ⟨v, hs.1.symm⟩
  | halt e w1 => rw [hq] at hs; simp [Result.andThen] at hs
 have hu : ∀ (s : Sem Unit), ((do s; pure Next.skip : Sem Next).run P w = .ok x w') → x = .skip := by
  intro s hs
  rw [Sem.run_bind] at hs
  cases hq : s.run P w with
  | ok v w1 => rw [hq] at hs; simp [Result.andThen, Sem.run_pure] at hs; exact hs.1.symm
  | halt e w1 => rw [hq] at hs; simp [Result.andThen] at hs
 unfold execOp at hr
 cases ho : op.op <;> simp only [ho, calmOp, Bool.false_eq_true] at h <;> simp only [ho] at hr
 case move x => left; simp [Sem.run_pure] at hr; exact ⟨_, hr.1.symm⟩
 case assign x => left; simp [Sem.run_pure] at hr; exact ⟨_, hr.1.symm⟩
 case alloc => exact .inl (hv _ hr)
 case load => exact .inl (hv _ hr)
 case store => exact .inr (hu _ hr)
 case fieldAddr => exact .inl (hv _ hr)
 case indexAddr => exact .inl (hv _ hr)
 case slice => exact .inl (hv _ hr)
 case nilCheck xo =>
  left
  have hp : ∀ (β : Type) (f : β → Value) (t : Sem β), ((do let b ← t; pure (Next.value (f b))) : Sem Next).run P w = .ok x w' → ∃ v, x = .value v := by
   intro β f t hs
   rw [Sem.run_bind] at hs
   cases hq : t.run P w with
   | ok v w1 => rw [hq] at hs; simp [Result.andThen, Sem.run_pure] at hs; exact ⟨_, hs.1.symm⟩
   | halt e w1 => rw [hq] at hs; simp [Result.andThen] at hs
  split at hr
  ·simp [runtimePanic, goPanic, go_sem] at hr
  ·simp [runtimePanic, goPanic, go_sem] at hr
  ·simp [runtimePanic, goPanic, go_sem] at hr
  ·split at hr
   ·simp [runtimePanic, goPanic, go_sem] at hr
   ·rw [Sem.run_bind] at hr
    cases h1 : (program).run P w with
    | halt e w1 => rw [h1] at hr; simp [Result.andThen] at hr
    | ok p w1 =>
      rw [h1] at hr
      simp only [Result.andThen_ok] at hr
      rw [Sem.run_bind] at hr
      generalize Sem.run P (nilAhead _ _ _ _) w1 = r at hr
      cases r with
      | halt e w2 => simp [Result.andThen] at hr
      | ok b w2 =>
        simp only [Result.andThen_ok] at hr
        split at hr
        ·simp [unsupported, go_sem] at hr
        ·simp [Sem.run_pure] at hr; exact ⟨_, hr.1.symm⟩
   ·simp [Sem.run_pure] at hr; exact ⟨_, hr.1.symm⟩
  ·simp [Sem.run_pure] at hr; exact ⟨_, hr.1.symm⟩
theorem wpOp_in {i : Nat} (hc : ∀ o, ops[i]? = some o → calmOp o.op = true) (hQ : ¬ LetsOut Q) (h : wpOp P ops Q i K a w) : wpOpIn F n P ops Q i K a w := by
 unfold wpOp at h
 unfold wpOpIn
 cases ho : ops[i]? with
 | none => rw [ho] at h; exact h
 | some o =>
   rw [ho] at h
   have hco := hc o ho
   simp only at h ⊢
   split
   ·rename_i hw
    rw [if_pos hw] at h
    rcases h with h | ⟨_, hl⟩
    ·refine ⟨fun f hf => (by rw [calm_about hco] at hf; cases hf), ?_⟩
     rw [calm_sem hco]
     unfold Oper.wp at h
     cases hr : (execOp a.eval o).run P w with
     | ok x w1 =>
       rw [hr] at h
       rcases calm_ok hco a.eval hr with ⟨v, rfl⟩ | rfl
       ·exact h
       ·exact h
     | halt e w1 =>
       rw [hr] at h
       cases e <;> first | exact h | exact (h : False).elim
    ·exact absurd hl hQ
   ·rename_i hw
    rw [if_neg hw] at h
    exact ⟨fun f hf => (by rw [calm_about hco] at hf; cases hf), h⟩
theorem wpAny_in {md : Region.Mode} (hc : ∀ (i : Nat) (o : Oper), ops[i]? = some o → calmOp o.op = true) (hQ : ¬ LetsOut Q) : ∀ (fuel : Nat) (listed : Array Bool) (a : Act) (w : World), wpAny P md ops Q fuel listed a w → wpAnyIn F n P md ops Q fuel listed a w
 | 0, _, _, _, h => h
 | fuel + 1, _, _, _, h => ⟨h.1, fun i hi => wpOp_in (hc i) hQ (wpOp_mono (fun a' w' h' => wpAny_in hc hQ fuel _ a' w' h') (h.2 i hi))⟩
theorem wpIn_region_held {id : Nat} {S : World → Prop} (hm : P.follows .mixedOrders = true) (hc : ops.all (fun o => calmOp o.op) = true) (hQ : ¬ LetsOut Q) (hS : S w.drew)
  (h : S w.drew → wpAnyH P .any ops Q S ops.size (Array.replicate ops.size false) a w.drew) : (Code.region id ops true).wpIn F n P Q a w :=
 wpIn_region_any hm (wpAny_in (fun i o ho => by
  rw [Array.all_eq_true_iff_forall_mem] at hc
  exact hc o (Array.mem_of_getElem? ho)) hQ _ _ _ _ (wpAny_of_held _ _ _ _ (h hS)))
end
abbrev At (n : Nat) := { x : Nat × Wr // x.2.at_ < n }
def atEnc (n : Nat) (x : At n) : Array Value := #[.int .i64 x.1.1, .agg x.1.2.cells.toArray]
def KpB (Bs Pb : Nat) (W W' : World) : Prop := W'.heap[Bs]? = W.heap[Bs]? ∧ W'.heap[Pb]? = W.heap[Pb]?
def fromLast (n : Nat) (l : List (At n)) (k : Nat) : List (At n) := (l.drop k).reverse
theorem fromLast_succ (n : Nat) (l : List (At n)) (k : Nat) (h : k < l.length) : fromLast n l k = fromLast n l (k + 1) ++ [l[k]] := by
 simp only [fromLast]
 rw [List.drop_eq_getElem_cons h, List.reverse_cons]
theorem fromLast_length (n : Nat) (l : List (At n)) (k : Nat) : (fromLast n l k).length = l.length - k := by simp [fromLast]
attribute [local go_sem] Oper.semAt_some
theorem back_core (m : Nat) (l Bs Pb n len cap : Nat) (cs : Nat → List Value) (y : Nat → Array Value) (hlen : len ≤ maxLen) (J : Nat → World → Prop) (Jx : World → Prop) (K : World → World → Prop)
  (hcs : ∀ j, j < len → (cs j).length = 65) (hK : ∀ W W', K W W' → KpB Bs Pb W W') (hy : ∀ j, j < len → y j = #[.int .i64 j, .agg (cs j).toArray])
  (hY : ∀ k W, k < len → J (k + 1) W → YieldAt Fence.wide (m - 1) Tryz.prog l (y k) W fun e W' =>
   (e = .returned (.bool true) ∧ J k W' ∧ K W W') ∨ (e = .returned (.bool false) ∧ Jx W'))
  (W : World) (hBs : W.cell? ⟨Bs, 0, none⟩ = some (.slice (some ⟨Pb, 0, none⟩) len cap)) (hc : ∀ j, j < len → W.rangeAt Pb (j * 65) (cs j)) (h0 : J len W) :
  CallsIn Fence.wide m Tryz.prog 113 #[.func (.yield l) #[] #[], .pointer (some ⟨Bs, 0, none⟩)] W fun e W' => (∃ v, e = .returned v) ∧ (J 0 W' ∨ Jx W') := by
 unfold maxLen at hlen
 have hu71 := Tryz.underlying119
 refine callsIn_of_wp Tryz.func113 rfl trivial ?_ rfl
 simp only [Tryz.ntmps113, List.size_toArray, List.length_cons, List.length_nil, Nat.reduceAdd, Nat.reduceSub, Array.replicate_succ, Array.replicate_zero, List.push_toArray, List.append_toArray, List.nil_append, List.cons_append]
 gi_wp2
 gi_loopw [3] (fun i wr => ∃ k : Nat, k ≤ len ∧ i = .int .i64 ((k : Int) - 1) ∧ J k wr ∧ KpB Bs Pb W wr) (fun i _ => (intOf i + 1).toNat)
 case atStart => exact ⟨len, Nat.le_refl _, rfl, h0, rfl, rfl⟩
 case round =>
  obtain ⟨k, hk, rfl, hJ, hkp⟩ := hrel
  cases k with
  | zero =>
    clear hY hc hcs hK hy h0 hBs hkp
    gi_wp2
    go_end0
    exact ⟨⟨_, rfl⟩, .inl hJ⟩
  | succ j =>
    have e1 : (((j + 1 : Nat) : Int) - 1) = (j : Int) := by omega
    rw [e1]
    obtain ⟨fn, tmps, assign, body, hyr, hR⟩ := hY j wr (by omega) hJ
    rw [hy j (by omega)] at hyr
    have hb1 : wr.cell? ⟨Bs, 0, none⟩ = some (.slice (some ⟨Pb, 0, none⟩) len cap) := (World.cell?_of_block (w := W) hkp.1).trans hBs
    have hr1 : wr.rangeAt Pb (j * 65) (cs j) := fun q v hv => (World.cell?_of_block (w := W) hkp.2).trans (hc j (by omega) q v hv)
    have hi : (Tryz.prog.info? 119).map (·.size) = some (cs j).length := by rw [size71, hcs j (by omega)]
    have hj0 : (0 : Int) ≤ (j : Int) := Int.natCast_nonneg _
    have hj1 : (j : Int) < (len : Int) := by omega
    have HKP : Hid (KpB Bs Pb W wr) := hkp
    have HK : Hid (∀ W W', K W W' → KpB Bs Pb W W') := hK
    clear hY hc hcs hy h0 hBs e1 hkp hK
    gi_wp2_with (refine wpListIn_load_mid rfl 119 _ rfl Pb (j * 65) rfl (cs j) _ hr1 hu71 rfl hi ?_)
    refine ⟨fun h => (by simp [Fence.wide] at h), hR.mono ?_⟩
    rintro e W3 (⟨rfl, hJ3, hk3⟩ | ⟨rfl, hJx3⟩)
    ·have hk4 : KpB Bs Pb W W3 := ⟨(HK.out _ _ hk3).1.trans HKP.out.1, (HK.out _ _ hk3).2.trans HKP.out.2⟩
     have HK4 : Hid (KpB Bs Pb W W3) := hk4
     clear hk4 hk3
     gi_wp2
     go_roundw
     case rel => exact ⟨j, by omega, rfl, hJ3, HK4.out⟩
     case measure => simp [intOf]
    ·gi_wp2
     refine bodyPost_ret (results_none rfl _ _ _) rfl ?_
     exact ⟨⟨_, rfl⟩, .inr hJx3⟩
theorem back_nil (m l Bs : Nat) (J : World → Prop) (W : World) (hBs : W.cell? ⟨Bs, 0, none⟩ = some (.slice none 0 0)) (h0 : J W) :
  CallsIn Fence.wide m Tryz.prog 113 #[.func (.yield l) #[] #[], .pointer (some ⟨Bs, 0, none⟩)] W fun e W' => (∃ v, e = .returned v) ∧ J W' := by
 refine callsIn_of_wp Tryz.func113 rfl trivial ?_ rfl
 simp only [Tryz.ntmps113, List.size_toArray, List.length_cons, List.length_nil, Nat.reduceAdd, Nat.reduceSub, Array.replicate_succ, Array.replicate_zero, List.push_toArray, List.append_toArray, List.nil_append, List.cons_append]
 gi_wp2
 gi_loopw [3] (fun i wr => i = .int .i64 (-1) ∧ J wr) (fun _ _ => 0)
 case atStart => exact ⟨rfl, h0⟩
 case round =>
  obtain ⟨rfl, hJ⟩ := hrel
  gi_wp2
  go_end0
  exact ⟨⟨_, rfl⟩, hJ⟩
theorem backward_in (m : Nat) (pv : Value) (w : World) (h1 : pv.oneCell' = true) (h2 : pv.cells = #[pv]) :
  CallsIn Fence.wide m Tryz.prog 94 #[pv] w fun e w' => e = .returned (.func (.func 113) #[] #[.pointer (some ⟨w.heap.size, 0, none⟩)]) ∧ w' = w.alloc (.cells #[pv] 52) := by
 refine callsIn_of_wp Tryz.func94 rfl trivial ?_ rfl
 simp only [Tryz.ntmps94, List.size_toArray, List.length_cons, List.length_nil, Nat.reduceAdd, Nat.reduceSub, Array.replicate_succ, Array.replicate_zero, List.push_toArray, List.append_toArray, List.nil_append, List.cons_append]
 gi_wp2
 go_ret
 exact ⟨rfl, rfl⟩
theorem back_stops (m Bs Pb n : Nat) (pv : Value) (l : List (At n)) (w : World) (hl : l.length ≤ maxLen) (hx : ∀ j (h : j < l.length), l[j].1.1 = j) (hBs : w.cell? ⟨Bs, 0, none⟩ = some pv)
  (hpv : (pv = .slice none 0 0 ∧ l = []) ∨ ∃ cap, pv = .slice (some ⟨Pb, 0, none⟩) l.length cap) (hc : ∀ j (h : j < l.length), w.rangeAt Pb (j * 65) l[j].1.2.cells) :
  SeqStopsK Fence.wide m Tryz.prog 113 #[.pointer (some ⟨Bs, 0, none⟩)] (atEnc n) (KpB Bs Pb) (fun ys => ys = fromLast n l 0) (fun _ => True) l.length w := fun lo J Jx W hW _ _ hY h0 => by
 have hBl := World.block_lt_of_cell? w _ hBs
 have hBs' : W.cell? ⟨Bs, 0, none⟩ = some pv := (hW.cell (p := ⟨Bs, 0, none⟩) hBl).trans hBs
 rcases hpv with ⟨rfl, rfl⟩ | ⟨cap, rfl⟩
 ·exact (back_nil m lo Bs (J []) W hBs' h0).mono fun e W' ⟨he, hj⟩ => ⟨he, .inl ⟨_, rfl, by simpa [fromLast] using hj⟩⟩
 ·refine (back_core m lo Bs Pb n l.length cap (fun j => if h : j < l.length then l[j].1.2.cells else []) (fun j => if h : j < l.length then atEnc n l[j] else #[]) hl (fun k W => J (fromLast n l k) W) (fun W => ∃ pre, Jx pre W) (KpB Bs Pb)
   (fun j hj => by simp only [dif_pos hj]; simp [Wr.cells, wrL_length]) (fun _ _ h => h) (fun j hj => by simp only [dif_pos hj, atEnc, hx j hj]) ?_ W hBs' (fun j hj => ?_) ?_).mono ?_
  ·intro k W1 hk hJ
   have := hY (fromLast n l (k + 1)) l[k] W1 hJ (by rw [fromLast_length]; omega)
   rw [← fromLast_succ n l k hk] at this
   simp only [dif_pos hk]
   obtain ⟨fn, tmps, assign, body, e1, e2⟩ := this
   refine ⟨fn, tmps, assign, body, e1, e2.mono ?_⟩
   rintro e W' (⟨he, h1, h2⟩ | ⟨he, h1⟩)
   ·exact .inl ⟨he, h1, h2⟩
   ·exact .inr ⟨he, _, h1⟩
  ·simp only [dif_pos hj]
   intro q v hv
   have h1 := hc j hj q v hv
   exact (hW.cell (p := ⟨Pb, j * 65 + q, none⟩) (World.block_lt_of_cell? w _ h1)).trans h1
  ·simpa [fromLast] using h0
  ·rintro e W' ⟨he, hj | ⟨pre, hj⟩⟩
   ·exact ⟨he, .inl ⟨_, rfl, hj⟩⟩
   ·exact ⟨he, .inr ⟨pre, trivial, hj⟩⟩
end Go.Proofs.YtlcglapcmdpkfaaGreat
