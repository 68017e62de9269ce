/- What Write does on a disk that lives, at a sector that there is. What New answers, what Read answers, and when Write is refused. What sector answers; New. What Live, Barrier and Write leave of a disk. What maps.Clone and bytes.Clone do; a store in memory; the calls on it that look at no disk. A store in memory; the calls on it that look at no disk: usable, reach, holds, Get, Put, Drop, Epoch. -/
import Derived.Test.YtpoakkdkibameabGac
import Derived.Test.YtpoakkdkibameabGaa
import Derived.Test.YtpoakkdkibameabGab
namespace Go.Proofs.Ytpoakkdkibameab
open Go.RowKit
set_option linter.unusedSimpArgs false
set_option linter.unusedVariables false

theorem info71 : (Try.prog.info? 115).map (fun i => (i.zero, i.size, i.bytes)) = some (some (.agg (wrL 0 (fun _ => 0) (fun _ => 0)).toArray), 65, 72) := by kernel_rfl
theorem arrayAt68 (a : Addr) (bc : Nat) (w : World) : (Instr.arrayAt 113 (.slice (some a) 32 bc)).run Try.prog w = .ok (.pointer (some a)) w := by kernel_rfl
theorem alloc71 (w : World) : (Instr.alloc 115 true (.tuple #[])).run Try.prog w = .ok (.pointer (some ⟨w.heap.size, 0, none⟩)) (w.alloc (.cells (wrL 0 (fun _ => 0) (fun _ => 0)).toArray 115)) := by kernel_rfl
theorem slice71 (s : Int) (f g : Nat → Int) (w : World) : (Instr.buildSlice 71 1 #[(0, .agg (wrL s f g).toArray)]).run Try.prog w = .ok (.slice (some ⟨w.heap.size, 0, none⟩) 1 1) (w.alloc (.cells (wrL s f g).toArray 115)) := by kernel_rfl

theorem load63 (a : Addr) (v : Value) (w : World) (h : w.cell? a = some v) : (Instr.loadAt 71 (.pointer (some a))).run Try.prog w = .ok v w := by go_simp
set_option maxRecDepth 100000 in
set_option maxHeartbeats 1600000 in
/-- Write, up to the disk's age: the sector holds the new bytes, the write is behind the others; of the rest nothing has turned. -/
theorem write_core (p S n c k g o bc m B : Nat) (l : Int) (pv : Value) (old new wr xs : List Value) (w : World) (R : Ending → World → Prop)
    (h0 : w.cell? ⟨p, 0, none⟩ = some (.slice (some ⟨S, 0, none⟩) n c)) (h1 : w.cell? ⟨p, 1, none⟩ = some pv) (h2 : w.cell? ⟨p, 2, none⟩ = some (.int .i64 l)) (hf1 : w.frozen? ⟨p, 1, none⟩ = false) (hl : (l == 0) = false) (hk2 : (k : Int) < n)
    (lo : old.length = 32) (ln : new.length = 32) (lw : wr.length = 65) (on : ∀ v ∈ new, v.oneCell' = true) (ow : ∀ v ∈ wr, v.oneCell' = true) (hwn : wr.drop 33 = new)
    (hold : w.rangeAt S (k * 32) old) (hnew : w.rangeAt g o new) (ht : w.there S (k * 32) 32) (hpS : p ≠ S)
    (hown : w.ownsRow B 115 65 pv m xs) (ap : pv.ownBlock ≠ some p) (aS : pv.ownBlock ≠ some S) (hB : B ≤ w.heap.size) (hm : m + 1 ≤ maxLen) (hby : (m + 1) * 72 ≤ 140737488355328)
    (hb : ∀ w, (Instr.build 115 #[(0, .int .i64 k), (1, .agg old.toArray), (2, .agg new.toArray)]).run Try.prog w = .ok (.agg wr.toArray) w)
    (hbs : ∀ w, (Instr.buildSlice 71 1 #[(0, .agg wr.toArray)]).run Try.prog w = .ok (.slice (some ⟨w.heap.size, 0, none⟩) 1 1) (w.alloc (.cells wr.toArray 115)))
    (hrest : ∀ (gg cap : Nat) (w1 w3 : World), Only (fun i => i = S) w w1 → w1.rangeAt S (k * 32) new → (∀ o' cs, w.rangeAt S o' cs → o' + cs.length ≤ k * 32 ∨ k * 32 + 32 ≤ o' → w1.rangeAt S o' cs) → (∀ o' q, w.there S o' q → w1.there S o' q) →
        w1.grownBy w3 pv.ownBlock → w3.ownsRow B 115 65 (.slice (some ⟨gg, 0, none⟩) (m + 1) cap) (m + 1) (xs ++ wr) → (pv.ownBlock = some gg ∨ w.heap.size ≤ gg) → gg < w3.heap.size →
        Calls Try.prog 64 #[.pointer (some ⟨p, 0, none⟩)] (w3.setCell ⟨p, 1, none⟩ (.slice (some ⟨gg, 0, none⟩) (m + 1) cap)) fun e w' => e = .returned (.tuple #[]) ∧ R (.returned (.int .i64 0)) w') :
    Calls Try.prog 47 #[.pointer (some ⟨p, 0, none⟩), .int .i64 k, .slice (some ⟨g, o, none⟩) 32 bc] w R := by
  have hk : (0 : Int) ≤ (k : Int) := Int.natCast_nonneg _
  have hu := Try.underlying113
  have hu71 := Try.underlying115
  have hio : (Try.prog.info? 113).map (·.size) = some old.length := by rw [size68, lo]
  have hin : (Try.prog.info? 113).map (·.size) = some new.length := by rw [size68, ln]
  have hiw : (Try.prog.info? 115).map (·.size) = some wr.length := by rw [size71, lw]
  have hsa := arrayAt68
  have lp := World.block_lt_of_cell? w _ h0
  have lS : S < w.heap.size := by
    obtain ⟨u, hu'⟩ := Option.isSome_iff_exists.1 (ht 0 (by omega)).1
    exact World.block_lt_of_cell? w _ hu'
  obtain ⟨i0, hi0, hz0, hz1, hz2⟩ := info_parts info71
  have aB0 : ∀ q, pv.ownBlock = some q → q < w.heap.size := fun q hq => (hown.lt q hq).2
  have HR : Hid _ := hrest
  clear hrest
  go_enter Try.func47, Try.ntmps47
  go_wp2_with (first | (go_at_call 63; refine (reach_ok p S n c l k _ ‹_› ‹_› hl hk hk2).mono ?_; rintro e wq ⟨rfl, hwq⟩; have hwq2 := hwq.symm; clear hwq; subst hwq2))
  refine wp_region_noPanic ?_
  refine wp_region_held_drew (S := fun w' => w'.cell? ⟨p, 0, none⟩ = some (.slice (some ⟨S, 0, none⟩) n c) ∧ w'.rangeAt S (k * 32) old ∧ w'.rangeAt g o new) (by kernel_rfl) ?_ (fun hHeld => ?_)
  · exact ⟨by simpa using h0, by simpa using hold, by simpa using hnew⟩
  refine wpAnyH_take (i := 0) (v := .int .i64 k) rfl (by kernel_rfl) (by kernel_rfl) (by kernel_rfl) (fun _ _ _ h => h) (Or.inl ⟨by rfl, fun wx hSw => by go_simp⟩) hHeld ?_
  simp only [Act.put, List.setIfInBounds_toArray, List.set_cons_zero, List.set_cons_succ, List.getElem_toArray, List.getElem_cons_zero, List.getElem_cons_succ]
  refine wpAnyH_take (i := 1) (v := .pointer (some ⟨p, 0, none⟩)) rfl (by kernel_rfl) (by kernel_rfl) (by kernel_rfl) (fun _ _ _ h => h) (Or.inl ⟨by rfl, fun wx hSw => by go_simp⟩) hHeld ?_
  simp only [Act.put, List.setIfInBounds_toArray, List.set_cons_zero, List.set_cons_succ, List.getElem_toArray, List.getElem_cons_zero, List.getElem_cons_succ]
  refine wpAnyH_take (i := 2) (v := .pointer (some ⟨p, 0, none⟩)) rfl (by kernel_rfl) (by kernel_rfl) (by kernel_rfl) (fun _ _ _ h => h) (Or.inl ⟨by rfl, fun wx hSw => by go_simp⟩) hHeld ?_
  simp only [Act.put, List.setIfInBounds_toArray, List.set_cons_zero, List.set_cons_succ, List.getElem_toArray, List.getElem_cons_zero, List.getElem_cons_succ]
  refine wpAnyH_take (i := 3) (v := .pointer (some ⟨p, 0, none⟩)) rfl (by kernel_rfl) (by kernel_rfl) (by kernel_rfl) (fun _ _ _ h => h) (Or.inl ⟨by rfl, fun wx hSw => by go_simp⟩) hHeld ?_
  simp only [Act.put, List.setIfInBounds_toArray, List.set_cons_zero, List.set_cons_succ, List.getElem_toArray, List.getElem_cons_zero, List.getElem_cons_succ]
  refine wpAnyH_take (i := 4) (v := .slice (some ⟨S, 0, none⟩) n c) rfl (by kernel_rfl) (by kernel_rfl) (by kernel_rfl) (fun _ _ _ h => h) (Or.inl ⟨by rfl, fun wx hSw => by go_simp⟩) hHeld ?_
  simp only [Act.put, List.setIfInBounds_toArray, List.set_cons_zero, List.set_cons_succ, List.getElem_toArray, List.getElem_cons_zero, List.getElem_cons_succ]
  refine wpAnyH_take (i := 5) (v := .int .i64 k) rfl (by kernel_rfl) (by kernel_rfl) (by kernel_rfl) (fun _ _ _ h => h) (Or.inl ⟨by rfl, fun wx hSw => by go_simp⟩) hHeld ?_
  simp only [Act.put, List.setIfInBounds_toArray, List.set_cons_zero, List.set_cons_succ, List.getElem_toArray, List.getElem_cons_zero, List.getElem_cons_succ]
  refine wpAnyH_take (i := 6) (v := .pointer (some ⟨S, k * 32, none⟩)) rfl (by kernel_rfl) (by kernel_rfl) (by kernel_rfl) (fun _ _ _ h => h) (Or.inl ⟨by rfl, fun wx hSw => by go_simp⟩) hHeld ?_
  simp only [Act.put, List.setIfInBounds_toArray, List.set_cons_zero, List.set_cons_succ, List.getElem_toArray, List.getElem_cons_zero, List.getElem_cons_succ]
  refine wpAnyH_take (i := 7) (v := .agg old.toArray) rfl (by kernel_rfl) (by kernel_rfl) (by kernel_rfl) (fun _ _ _ h => h) (yieldsIf_load_mid (by rfl) 113 _ rfl S (k * 32) rfl old _ (fun wx hSw => hSw.2.1) hu rfl hio) hHeld ?_
  simp only [Act.put, List.setIfInBounds_toArray, List.set_cons_zero, List.set_cons_succ, List.getElem_toArray, List.getElem_cons_zero, List.getElem_cons_succ]
  refine wpAnyH_take (i := 8) (v := .slice (some ⟨g, o, none⟩) 32 bc) rfl (by kernel_rfl) (by kernel_rfl) (by kernel_rfl) (fun _ _ _ h => h) (Or.inl ⟨by rfl, fun wx hSw => by go_simp⟩) hHeld ?_
  simp only [Act.put, List.setIfInBounds_toArray, List.set_cons_zero, List.set_cons_succ, List.getElem_toArray, List.getElem_cons_zero, List.getElem_cons_succ]
  refine wpAnyH_take (i := 9) (v := .pointer (some ⟨g, o, none⟩)) rfl (by kernel_rfl) (by kernel_rfl) (by kernel_rfl) (fun _ _ _ h => h) (Or.inl ⟨by rfl, fun wx hSw => by go_simp⟩) hHeld ?_
  simp only [Act.put, List.setIfInBounds_toArray, List.set_cons_zero, List.set_cons_succ, List.getElem_toArray, List.getElem_cons_zero, List.getElem_cons_succ]
  refine wpAnyH_take (i := 10) (v := .agg new.toArray) rfl (by kernel_rfl) (by kernel_rfl) (by kernel_rfl) (fun _ _ _ h => h) (yieldsIf_load_mid (by rfl) 113 _ rfl g o rfl new _ (fun wx hSw => hSw.2.2) hu rfl hin) hHeld ?_
  simp only [Act.put, List.setIfInBounds_toArray, List.set_cons_zero, List.set_cons_succ, List.getElem_toArray, List.getElem_cons_zero, List.getElem_cons_succ]
  refine wpAnyH_take (i := 11) (v := .agg wr.toArray) rfl (by kernel_rfl) (by kernel_rfl) (by kernel_rfl) (fun _ _ _ h => h) (yields_value (s := Instr.build 115 #[(0, .int .i64 k), (1, .agg old.toArray), (2, .agg new.toArray)]) (by rfl) (by simp only [List.getElem_toArray, List.getElem_cons_succ, List.getElem_cons_zero, execOp, List.map_toArray, List.map_cons, List.map_nil]; rfl) (fun wx _ => hb wx)) hHeld ?_
  simp only [Act.put, List.setIfInBounds_toArray, List.set_cons_zero, List.set_cons_succ, List.getElem_toArray, List.getElem_cons_zero, List.getElem_cons_succ]
  refine wpAnyH_ready (rs := [12]) (by kernel_rfl) (by simp) ?_
  refine AllReadyH.cons rfl (fun K hK => ?_) AllReadyH.nil
  rw [if_pos (by rfl)]
  refine wp_value rfl (alloc71 _) ?_
  refine hK.out _ _ ⟨World.cell?_alloc_some _ _ _ (by simp [h0]) |>.trans (by simpa using h0), World.rangeAt_alloc (by simpa using hold) _, World.rangeAt_alloc (by simpa using hnew) _⟩ (fun hHeld => ?_)
  clear hK K
  simp only [Act.put, List.setIfInBounds_toArray, List.set_cons_zero, List.set_cons_succ, List.getElem_toArray, List.getElem_cons_zero, List.getElem_cons_succ]
  refine wpAnyH_ready (rs := [13]) (by kernel_rfl) (by simp) ?_
  refine AllReadyH.cons rfl (fun K hK => ?_) AllReadyH.nil
  rw [if_pos (by rfl)]
  refine wp_unit rfl (run_storeAt_new _ 115 _ wr.toArray (by rw [size71]; simp [lw]) (by simp [lw, wrL_length]) (all_oneCell_toArray ow)) ?_
  refine hK.out _ _ ⟨World.cell?_alloc_some _ _ _ (by simp [h0]) |>.trans (by simpa using h0), World.rangeAt_alloc (by simpa using hold) _, World.rangeAt_alloc (by simpa using hnew) _⟩ (fun hHeld => ?_)
  clear hK K hHeld
  simp only [Act.put, List.setIfInBounds_toArray, List.set_cons_zero, List.set_cons_succ, List.getElem_toArray, List.getElem_cons_zero, List.getElem_cons_succ]
  refine wpAnyH_done (by kernel_rfl) ?_ _
  refine NoPanic.normal ?_
  obtain ⟨w0, hw0⟩ : ∃ x, x = w.drew.alloc (.cells wr.toArray 115) := ⟨_, rfl⟩
  obtain ⟨N, hN⟩ : ∃ x, x = w.heap.size := ⟨_, rfl⟩
  have o0 : Only (fun i => i = S) w w0 := by rw [hw0]; exact (Only.refl _ w).drew.alloc _
  have a0 : w0.cell? ⟨p, 0, none⟩ = some (.slice (some ⟨S, 0, none⟩) n c) := o0.cell h0 hpS
  have a1 : w0.cell? ⟨p, 1, none⟩ = some pv := o0.cell h1 hpS
  have af : w0.frozen? ⟨p, 1, none⟩ = false := (o0.frozen lp hpS).trans hf1
  have at0 : ∀ o' q, w.there S o' q → w0.there S o' q := fun o' q h => by rw [hw0]; exact World.there_alloc (by simpa using h) _
  have ar0 : ∀ o' cs, w.rangeAt S o' cs → w0.rangeAt S o' cs := fun o' cs h => by rw [hw0]; exact World.rangeAt_alloc (by simpa using h) _
  have hNb : w0.heap[N]? = some (.cells wr.toArray 115 (0, 0)) := by rw [hw0, hN]; exact heap_alloc_new w.drew _
  have aw : w0.rangeAt N 0 wr := fun j v hv => by rw [cell_of_row w0 N (0 + j) _ _ _ hNb]; simpa using hv
  have an : w0.rangeAt N 33 new := fun j v hv => by
    rw [cell_of_row w0 N (33 + j) _ _ _ hNb]
    rw [← hwn, List.getElem?_drop] at hv
    simpa using hv
  have hNl : N < w0.heap.size := by rw [hw0, hN]; simp
  have own0 : w0.ownsRow B 115 65 pv m xs := by rw [hw0]; exact (hown.drew).alloc _
  have hNS : N ≠ S := by omega
  have hNp : N ≠ p := by omega
  have hNw : w.drew.heap.size = N := by rw [hN]; rfl
  have hNge : w.heap.size ≤ N := by omega
  rw [← hw0, hNw]
  clear hw0 hNw hN hNb
  have O0 : Hid (Only (fun i => i = S) w w0) := o0
  have AT : Hid (∀ o' q, w.there S o' q → w0.there S o' q) := at0
  have AR : Hid (∀ o' cs, w.rangeAt S o' cs → w0.rangeAt S o' cs) := ar0
  have ht0 := at0 _ _ ht
  clear o0 at0 ar0 hb h0 h1 hold hnew ht hown hf1
  go_wp2
  go_region_held3 (fun w' => w'.cell? ⟨p, 0, none⟩ = some (.slice (some ⟨S, 0, none⟩) n c) ∧ w'.rangeAt N 33 new ∧ w'.there S (k * 32) 32)
    (first
      | go_keep_ranges
      | (go_split_ands
         refine ⟨(World.cell?_setCells_out _ _ _ _ _ (fun h => absurd h hpS)).trans (by assumption), World.rangeAt_setCells_apart (by assumption) _ _ _ (Or.inl hNS), World.there_setCells (by assumption) _ _ _⟩)) (fail)
  obtain ⟨w1, hw1⟩ : ∃ x, x = w0.drew.setCells S (k * 32) new := ⟨_, rfl⟩
  have o1 : Only (fun i => i = S) w w1 := by rw [hw1]; exact O0.out.drew.setCells _ _ _ (fun _ => rfl)
  have b1 : w1.cell? ⟨p, 1, none⟩ = some pv := by rw [hw1]; exact (World.cell?_setCells_out _ _ _ _ _ (fun h => absurd h hpS)).trans (by simpa using a1)
  have bf : w1.frozen? ⟨p, 1, none⟩ = false := by rw [hw1, World.frozen?_setCells]; simpa using af
  have bw : w1.rangeAt N 0 wr := by rw [hw1]; exact World.rangeAt_setCells_apart (by simpa using aw) _ _ _ (Or.inl hNS)
  have bS : w1.rangeAt S (k * 32) new := by rw [hw1]; exact World.rangeAt_setCells_same _ _ _ _ (by rw [ln]; simpa using ht0)
  have bA : ∀ o' cs, w.rangeAt S o' cs → o' + cs.length ≤ k * 32 ∨ k * 32 + 32 ≤ o' → w1.rangeAt S o' cs := fun o' cs h hx => by
    rw [hw1]; exact World.rangeAt_setCells_apart (by simpa using AR.out o' cs h) _ _ _ (by rw [ln]; omega)
  have bT : ∀ o' q, w.there S o' q → w1.there S o' q := fun o' q h => by rw [hw1]; exact World.there_setCells (by simpa using AT.out o' q h) _ _ _
  have own1 : w1.ownsRow B 115 65 pv m xs := by
    have oo : Only (fun i => i = S) w0 w1 := by rw [hw1]; exact (Only.refl _ w0).drew.setCells _ _ _ (fun _ => rfl)
    exact oo.owns own0 (fun q hq e => aS (by rw [hq, e]))
  have hNl1 : N < w1.heap.size := by rw [hw1, (setCells_same S new (k * 32) w0.drew).2.2.2]; exact hNl
  have aB : ∀ q, pv.ownBlock = some q → q < w.heap.size := aB0
  have hB1 : B ≤ w1.heap.size := by have := o1.size; omega
  rw [← hw1]
  have O1 : Hid (Only (fun i => i = S) w w1) := o1
  clear hw1 o1 O0 AT AR ht0 own0 aw an a0 a1 af hsa
  go_wp2
  refine wp_region_noPanic ?_
  refine wp_region_held_drew (S := fun w' => w'.rangeAt N 0 wr) (by kernel_rfl) (by simpa using bw) (fun hHeld => ?_)
  refine wpAnyH_take (i := 0) (v := .pointer (some ⟨p, 0, none⟩)) rfl (by kernel_rfl) (by kernel_rfl) (by kernel_rfl) (fun _ _ _ h => h) (Or.inl ⟨by rfl, fun wx hSw => by go_simp⟩) hHeld ?_
  simp only [Act.put, List.setIfInBounds_toArray, List.set_cons_zero, List.set_cons_succ, List.getElem_toArray, List.getElem_cons_zero, List.getElem_cons_succ]
  refine wpAnyH_take (i := 1) (v := .pointer (some ⟨p, 0, none⟩)) rfl (by kernel_rfl) (by kernel_rfl) (by kernel_rfl) (fun _ _ _ h => h) (Or.inl ⟨by rfl, fun wx hSw => by go_simp⟩) hHeld ?_
  simp only [Act.put, List.setIfInBounds_toArray, List.set_cons_zero, List.set_cons_succ, List.getElem_toArray, List.getElem_cons_zero, List.getElem_cons_succ]
  refine wpAnyH_take (i := 2) (v := .pointer (some ⟨p, 0, none⟩)) rfl (by kernel_rfl) (by kernel_rfl) (by kernel_rfl) (fun _ _ _ h => h) (Or.inl ⟨by rfl, fun wx hSw => by go_simp⟩) hHeld ?_
  simp only [Act.put, List.setIfInBounds_toArray, List.set_cons_zero, List.set_cons_succ, List.getElem_toArray, List.getElem_cons_zero, List.getElem_cons_succ]
  refine wpAnyH_take (i := 3) (v := .pointer (some ⟨p, 1, none⟩)) rfl (by kernel_rfl) (by kernel_rfl) (by kernel_rfl) (fun _ _ _ h => h) (Or.inl ⟨by rfl, fun wx hSw => by go_simp⟩) hHeld ?_
  simp only [Act.put, List.setIfInBounds_toArray, List.set_cons_zero, List.set_cons_succ, List.getElem_toArray, List.getElem_cons_zero, List.getElem_cons_succ]
  refine wpAnyH_take (i := 5) (v := .agg wr.toArray) rfl (by kernel_rfl) (by kernel_rfl) (by kernel_rfl) (fun _ _ _ h => h) (yieldsIf_load_mid (by rfl) 115 _ rfl N 0 rfl wr _ (fun wx hSw => hSw) hu71 rfl hiw) hHeld ?_
  simp only [Act.put, List.setIfInBounds_toArray, List.set_cons_zero, List.set_cons_succ, List.getElem_toArray, List.getElem_cons_zero, List.getElem_cons_succ]
  refine wpAnyH_ready (rs := [4, 6]) (by kernel_rfl) (by simp) ?_
  refine AllReadyH.cons rfl (fun K hK => ?_) (AllReadyH.cons rfl (fun K hK => ?_) AllReadyH.nil)
  · rw [if_pos (by rfl)]
    refine wp_value rfl (load63 ⟨p, 1, none⟩ pv w1.drew (by simpa using b1)) ?_
    refine hK.out _ _ (by simpa using bw) (fun hHeld => ?_)
    clear hK K
    simp only [Act.put, List.setIfInBounds_toArray, List.set_cons_zero, List.set_cons_succ, List.getElem_toArray, List.getElem_cons_zero, List.getElem_cons_succ]
    refine wpAnyH_ready (rs := [6]) (by kernel_rfl) (by simp) ?_
    refine AllReadyH.cons rfl (fun K hK => ?_) AllReadyH.nil
    rw [if_pos (by rfl)]
    refine wp_value (s := Instr.buildSlice 71 1 #[(0, .agg wr.toArray)]) (by simp only [List.getElem_toArray, List.getElem_cons_succ, List.getElem_cons_zero, execOp, List.map_toArray, List.map_cons, List.map_nil]; rfl) (hbs _) ?_
    refine hK.out _ _ (World.rangeAt_alloc (by simpa using bw) _) (fun hHeld => ?_)
    clear hK K
    simp only [Act.put, List.setIfInBounds_toArray, List.set_cons_zero, List.set_cons_succ, List.getElem_toArray, List.getElem_cons_zero, List.getElem_cons_succ]
    refine wpAnyH_ready (rs := [7]) (by kernel_rfl) (by simp) ?_
    refine AllReadyH.cons rfl (fun K hK => ?_) AllReadyH.nil
    refine step_append_lies _ (by rfl) _ _ _ (by rfl) B 115 i0 _ 65 72 Try.underlying71 hi0 hz0 hz1 hz2 (by simp [wrL_length, Value.cells]) (by omega) pv m xs (by rfl) ((own1.drew).alloc _)
        ⟨w1.drew.heap.size, 0, none⟩ 1 1 wr (by rfl) (by simp [lw]) (World.news_of_block (cs := wr.toArray) (t := 115) (fr := (0, 0)) (heap_alloc_new w1.drew _)) ow
        (by omega) hm hby (by simp; omega) (w1.heap.size + 1) (by simp) ?_
    intro gg cap w3 own3 hgrow hat hlt
    have gN : some N ≠ pv.ownBlock := fun e => by have := aB N e.symm; omega
    have hgr : w1.grownBy w3 pv.ownBlock := ⟨hgrow.os, hgrow.tape, hgrow.output, by have := hgrow.size; simp at this; omega, fun q hq hn => (hgrow.block q (by simp; omega) hn).trans (Below.heap_alloc _ _ _ hq)⟩
    refine hK.out _ _ (fun j v hv => hgr.cell (a := ⟨N, 0 + j, none⟩) (bw j v hv) gN) (fun hHeld => ?_)
    clear hK K
    simp only [Act.put, List.setIfInBounds_toArray, List.set_cons_zero, List.set_cons_succ, List.getElem_toArray, List.getElem_cons_zero, List.getElem_cons_succ]
    refine wpAnyH_take (i := 8) (v := .pointer (some ⟨p, 0, none⟩)) rfl (by kernel_rfl) (by kernel_rfl) (by kernel_rfl) (fun _ _ _ h => h) (Or.inl ⟨by rfl, fun wx hSw => by go_simp⟩) hHeld ?_
    simp only [Act.put, List.setIfInBounds_toArray, List.set_cons_zero, List.set_cons_succ, List.getElem_toArray, List.getElem_cons_zero, List.getElem_cons_succ]
    refine wpAnyH_take (i := 9) (v := .pointer (some ⟨p, 1, none⟩)) rfl (by kernel_rfl) (by kernel_rfl) (by kernel_rfl) (fun _ _ _ h => h) (Or.inl ⟨by rfl, fun wx hSw => by go_simp⟩) hHeld ?_
    simp only [Act.put, List.setIfInBounds_toArray, List.set_cons_zero, List.set_cons_succ, List.getElem_toArray, List.getElem_cons_zero, List.getElem_cons_succ]
    refine wpAnyH_ready (rs := [10]) (by kernel_rfl) (by simp) ?_
    refine AllReadyH.cons rfl (fun K hK => ?_) AllReadyH.nil
    rw [if_pos (by rfl)]
    have d1 : w3.cell? ⟨p, 1, none⟩ = some pv := hgr.cell b1 (Ne.symm ap)
    have df : w3.frozen? ⟨p, 1, none⟩ = false := (hgr.frozen_far ⟨p, 1, none⟩ (World.block_lt_of_cell? w1 _ b1) (Ne.symm ap)).trans bf
    refine wp_unit (w' := w3.setCell ⟨p, 1, none⟩ (.slice (some ⟨gg, 0, none⟩) (m + 1) cap)) rfl (s := Instr.storeAt 71 (.pointer (some ⟨p, 1, none⟩)) (.slice (some ⟨gg, 0, none⟩) (m + 1) cap)) (by go_simp) ?_
    refine hK.out _ _ (fun j v hv => (World.cell?_setCell_other _ _ _ _ (fun e => hNp (by injection e with e; exact e.symm))).trans (hHeld j v hv)) (fun hHeld => ?_)
    clear hK K
    simp only [Act.put, List.setIfInBounds_toArray, List.set_cons_zero, List.set_cons_succ, List.getElem_toArray, List.getElem_cons_zero, List.getElem_cons_succ]
    refine wpAnyH_done (by kernel_rfl) ?_ _
    refine NoPanic.normal ?_
    have HC := HR.out gg cap w1 w3 O1.out bS bA bT hgr own3 (hat.imp id (fun e => by omega)) hlt
    go_wp2_with (go_at_call 64; refine HC.mono ?_; rintro e wq ⟨rfl, hRq⟩)
    exact hRq
  · rw [if_pos (by rfl)]
    refine wp_value (s := Instr.buildSlice 71 1 #[(0, .agg wr.toArray)]) (by simp only [List.getElem_toArray, List.getElem_cons_succ, List.getElem_cons_zero, execOp, List.map_toArray, List.map_cons, List.map_nil]; rfl) (hbs _) ?_
    refine hK.out _ _ (World.rangeAt_alloc (by simpa using bw) _) (fun hHeld => ?_)
    clear hK K
    simp only [Act.put, List.setIfInBounds_toArray, List.set_cons_zero, List.set_cons_succ, List.getElem_toArray, List.getElem_cons_zero, List.getElem_cons_succ]
    refine wpAnyH_ready (rs := [4]) (by kernel_rfl) (by simp) ?_
    refine AllReadyH.cons rfl (fun K hK => ?_) AllReadyH.nil
    rw [if_pos (by rfl)]
    refine wp_value rfl (load63 ⟨p, 1, none⟩ pv (w1.drew.alloc (.cells wr.toArray 115)) ((World.cell?_alloc_some _ _ _ (by simp [b1])).trans (by simpa using b1))) ?_
    refine hK.out _ _ (World.rangeAt_alloc (by simpa using bw) _) (fun hHeld => ?_)
    clear hK K
    simp only [Act.put, List.setIfInBounds_toArray, List.set_cons_zero, List.set_cons_succ, List.getElem_toArray, List.getElem_cons_zero, List.getElem_cons_succ]
    refine wpAnyH_ready (rs := [7]) (by kernel_rfl) (by simp) ?_
    refine AllReadyH.cons rfl (fun K hK => ?_) AllReadyH.nil
    refine step_append_lies _ (by rfl) _ _ _ (by rfl) B 115 i0 _ 65 72 Try.underlying71 hi0 hz0 hz1 hz2 (by simp [wrL_length, Value.cells]) (by omega) pv m xs (by rfl) ((own1.drew).alloc _)
        ⟨w1.drew.heap.size, 0, none⟩ 1 1 wr (by rfl) (by simp [lw]) (World.news_of_block (cs := wr.toArray) (t := 115) (fr := (0, 0)) (heap_alloc_new w1.drew _)) ow
        (by omega) hm hby (by simp; omega) (w1.heap.size + 1) (by simp) ?_
    intro gg cap w3 own3 hgrow hat hlt
    have gN : some N ≠ pv.ownBlock := fun e => by have := aB N e.symm; omega
    have hgr : w1.grownBy w3 pv.ownBlock := ⟨hgrow.os, hgrow.tape, hgrow.output, by have := hgrow.size; simp at this; omega, fun q hq hn => (hgrow.block q (by simp; omega) hn).trans (Below.heap_alloc _ _ _ hq)⟩
    refine hK.out _ _ (fun j v hv => hgr.cell (a := ⟨N, 0 + j, none⟩) (bw j v hv) gN) (fun hHeld => ?_)
    clear hK K
    simp only [Act.put, List.setIfInBounds_toArray, List.set_cons_zero, List.set_cons_succ, List.getElem_toArray, List.getElem_cons_zero, List.getElem_cons_succ]
    refine wpAnyH_take (i := 8) (v := .pointer (some ⟨p, 0, none⟩)) rfl (by kernel_rfl) (by kernel_rfl) (by kernel_rfl) (fun _ _ _ h => h) (Or.inl ⟨by rfl, fun wx hSw => by go_simp⟩) hHeld ?_
    simp only [Act.put, List.setIfInBounds_toArray, List.set_cons_zero, List.set_cons_succ, List.getElem_toArray, List.getElem_cons_zero, List.getElem_cons_succ]
    refine wpAnyH_take (i := 9) (v := .pointer (some ⟨p, 1, none⟩)) rfl (by kernel_rfl) (by kernel_rfl) (by kernel_rfl) (fun _ _ _ h => h) (Or.inl ⟨by rfl, fun wx hSw => by go_simp⟩) hHeld ?_
    simp only [Act.put, List.setIfInBounds_toArray, List.set_cons_zero, List.set_cons_succ, List.getElem_toArray, List.getElem_cons_zero, List.getElem_cons_succ]
    refine wpAnyH_ready (rs := [10]) (by kernel_rfl) (by simp) ?_
    refine AllReadyH.cons rfl (fun K hK => ?_) AllReadyH.nil
    rw [if_pos (by rfl)]
    have d1 : w3.cell? ⟨p, 1, none⟩ = some pv := hgr.cell b1 (Ne.symm ap)
    have df : w3.frozen? ⟨p, 1, none⟩ = false := (hgr.frozen_far ⟨p, 1, none⟩ (World.block_lt_of_cell? w1 _ b1) (Ne.symm ap)).trans bf
    refine wp_unit (w' := w3.setCell ⟨p, 1, none⟩ (.slice (some ⟨gg, 0, none⟩) (m + 1) cap)) rfl (s := Instr.storeAt 71 (.pointer (some ⟨p, 1, none⟩)) (.slice (some ⟨gg, 0, none⟩) (m + 1) cap)) (by go_simp) ?_
    refine hK.out _ _ (fun j v hv => (World.cell?_setCell_other _ _ _ _ (fun e => hNp (by injection e with e; exact e.symm))).trans (hHeld j v hv)) (fun hHeld => ?_)
    clear hK K
    simp only [Act.put, List.setIfInBounds_toArray, List.set_cons_zero, List.set_cons_succ, List.getElem_toArray, List.getElem_cons_zero, List.getElem_cons_succ]
    refine wpAnyH_done (by kernel_rfl) ?_ _
    refine NoPanic.normal ?_
    have HC := HR.out gg cap w1 w3 O1.out bS bA bT hgr own3 (hat.imp id (fun e => by omega)) hlt
    go_wp2_with (go_at_call 64; refine HC.mono ?_; rintro e wq ⟨rfl, hRq⟩)
    exact hRq

/-- The life behind a write or a barrier. -/
def aged (l : Int) : Int := if l = -1 then -1 else l - 1
theorem age_any (p : Nat) (l : Int) (w : World) (h2 : w.cell? ⟨p, 2, none⟩ = some (.int .i64 l)) (hf : w.frozen? ⟨p, 2, none⟩ = false) (hl : -1 ≤ l) (hl2 : l ≤ 9223372036854775807) :
    Calls Try.prog 64 #[.pointer (some ⟨p, 0, none⟩)] w fun e w' => e = .returned (.tuple #[]) ∧ w'.cell? ⟨p, 2, none⟩ = some (.int .i64 (aged l)) ∧ w'.frozen? ⟨p, 2, none⟩ = false ∧ (∀ a, a ≠ ⟨p, 2, none⟩ → w'.cell? a = w.cell? a) ∧ (∀ a, w'.frozen? a = w.frozen? a) ∧ Only (fun i => i = p) w w' := by
  by_cases e : l = -1
  · subst e
    refine (age_end p w h2).mono ?_
    rintro e w' ⟨rfl, rfl⟩
    exact ⟨rfl, h2, hf, fun _ _ => rfl, fun _ => rfl, Only.refl _ _⟩
  · refine (age_less p l w h2 hf (by omega) hl2).mono ?_
    rintro e' w' ⟨rfl, rfl⟩
    refine ⟨rfl, ?_, ?_, ?_, ?_, (Only.refl _ _).setCell _ _ (fun _ => rfl)⟩
    · rw [World.cell?_setCell_same _ _ _ h2]; simp [aged, e]
    · simpa using hf
    · intro a ha; exact World.cell?_setCell_other _ _ _ _ (fun h => ha h.symm)
    · intro a; simp

/-- Write on a disk that lives, at a sector that there is. -/
theorem write_ok (p S k g o bc B : Nat) (pv : Value) (d : DS) (f : Nat → Int) (w : World) (h : DiskAt w B p S pv d) (hl : d.life ≠ 0) (hk : k < d.n) (hf : w.rangeAt g o (secL f)) (hB : B ≤ w.heap.size) (hby : (d.pend.length + 1) * 72 ≤ 140737488355328) :
    Calls Try.prog 47 #[.pointer (some ⟨p, 0, none⟩), .int .i64 k, .slice (some ⟨g, o, none⟩) 32 bc] w fun e w' => e = .returned (.int .i64 0) ∧ ∃ pv', DiskAt w' B p S pv' { d with sec := upd d.sec k f, pend := d.pend ++ [⟨k, d.sec k, f⟩], life := aged d.life } ∧ Only (diskB p S pv) w w' ∧ (∀ b, pv'.ownBlock = some b → pv.ownBlock = some b ∨ w.heap.size ≤ b) := by
  obtain ⟨c, hc0⟩ := h.c0
  have hlt := h.lt
  refine write_core p S d.n c k g o bc d.pend.length B d.life pv (secL (d.sec k)) (secL f) (wrL k (d.sec k) f) (wrsL d.pend) w _ hc0 h.c1 h.c2 h.f1 (by simpa using hl) (by omega) (secL_length _) (secL_length _) (wrL_length _ _ _) (secL_one _) (wrL_one _ _ _)
    (by simp [wrL, List.drop_append, secL_length]) (h.secs k hk).1 hf (h.secs k hk).2 h.pS h.own h.hp h.hS hB (by unfold maxLen; omega) hby (fun w => build_wr _ _ _ w) (fun w => slice71 _ _ _ w) ?_
  intro gg cap w1 w3 o1 r1 ra rt hg own3 hat hlt3
  have hpS := h.pS
  have o3 : Only (diskB p S pv) w w3 := (o1.mono (fun q _ e => .inr (.inl e))).grown hg (fun q e _ => .inr (.inr e))
  have np : some p ≠ pv.ownBlock := Ne.symm h.hp
  have nS : some S ≠ pv.ownBlock := Ne.symm h.hS
  have e0 : w3.cell? ⟨p, 0, none⟩ = _ := hg.cell (o1.cell hc0 hpS) np
  have e1 : w3.cell? ⟨p, 1, none⟩ = _ := hg.cell (o1.cell h.c1 hpS) np
  have e2 : w3.cell? ⟨p, 2, none⟩ = _ := hg.cell (o1.cell h.c2 hpS) np
  have lp : p < w.heap.size := World.block_lt_of_cell? w _ h.c1
  have lp1 : p < w1.heap.size := Nat.lt_of_lt_of_le lp o1.size
  have g1 : w3.frozen? ⟨p, 1, none⟩ = false := (hg.frozen_far ⟨p, 1, none⟩ lp1 np).trans ((o1.frozen lp hpS).trans h.f1)
  have g2 : w3.frozen? ⟨p, 2, none⟩ = false := (hg.frozen_far ⟨p, 2, none⟩ lp1 np).trans ((o1.frozen lp hpS).trans h.f2)
  have gp : gg ≠ p := fun e => by rcases hat with hat | hat; exact h.hp (by rw [hat, e]); omega
  have gS : gg ≠ S := fun e => by rcases hat with hat | hat; exact h.hS (by rw [hat, e]); have := hlt S (.inr (.inl rfl)); omega
  have o13 : Only (fun q => pv.ownBlock = some q) w1 w3 := (Only.refl _ w1).grown hg (fun q e _ => e)
  refine (age_any p d.life _ ((World.cell?_setCell_other _ _ _ _ (by simp)).trans e2) (by simpa using g2) h.l1 h.l2).mono ?_
  rintro e w' ⟨rfl, c2, f2, hcell, hfr, oA⟩
  have s1 : Only (fun i => i = p) w3 w' := ((Only.refl (fun i => i = p) w3).setCell _ _ (fun _ => rfl)).trans oA (fun _ _ e => e)
  refine ⟨rfl, rfl, .slice (some ⟨gg, 0, none⟩) (d.pend.length + 1) cap, ?_, o3.trans s1 (fun i _ e => .inl e), ?_⟩
  · exact { pB := h.pB, SB := h.SB, pS := h.pS
            c0 := ⟨c, by rw [hcell _ (by simp), World.cell?_setCell_other _ _ _ _ (by simp)]; exact e0⟩
            c1 := by rw [hcell _ (by simp), World.cell?_setCell_same _ _ _ e1]
            c2 := c2
            f1 := by rw [hfr]; simpa using g1
            f2 := f2
            secs := fun i hi => by
              have hr := (h.secs i hi).1
              have ht := (h.secs i hi).2
              refine ⟨s1.range (o13.range ?_ (fun e => h.hS e)) (fun e => hpS e.symm), s1.there (o13.there (rt _ _ ht) (fun e => h.hS e)) (fun e => hpS e.symm)⟩
              by_cases e : i = k
              · subst e; simpa [upd] using r1
              · simp only [upd, if_neg e]
                exact ra _ _ hr (by rw [secL_length]; omega)
            own := by
              have := s1.owns own3 (fun q hq e => gp (by simp [Value.ownBlock] at hq; omega))
              simpa [wrsL_snoc, Wr.cells] using this
            hp := by simpa [Value.ownBlock] using gp
            hS := by simpa [Value.ownBlock] using gS
            n1 := h.n1, n2 := h.n2
            at_ := fun x hx => by
              rcases List.mem_append.1 hx with hx | hx
              · exact h.at_ x hx
              · simp at hx; subst hx; exact hk
            l1 := by have := h.l1; simp only [aged]; split <;> omega
            l2 := by have := h.l2; simp only [aged]; split <;> omega }
  · intro b hb
    simp [Value.ownBlock] at hb
    subst hb
    exact hat
end Go.Proofs.Ytpoakkdkibameab
namespace Go.Proofs.Ytpoakkdkibameab
open Go.RowKit
set_option linter.unusedSimpArgs false
set_option linter.unusedVariables false

theorem info68 : (Try.prog.info? 113).map (fun i => (i.zero, i.size, i.bytes)) = some (some (.agg (secL (fun _ => 0)).toArray), 32, 32) := by kernel_rfl

set_option maxHeartbeats 400000 in
theorem new_bad (n : Int) (w : World) (h : n < 1 ∨ 8192 < n) :
    Calls Try.prog 14 #[.int .i64 n] w fun e w' => e = .returned (.tuple #[.pointer none, .int .i64 2]) ∧ w' = w := by
  rcases h with h | h
  · go_enter Try.func14, Try.ntmps14
    go_wp2
    go_ret2
    exact ⟨rfl, rfl⟩
  · have h' : ¬ n < 1 := by omega
    go_enter Try.func14, Try.ntmps14
    go_wp2
    go_ret2
    exact ⟨rfl, rfl⟩

set_option maxHeartbeats 400000 in
theorem new_core (n : Nat) (A : Array Value) (w : World) (h1 : (1 : Int) ≤ n) (h2 : (n : Int) ≤ 8192)
    (hmk : ∀ w, (Instr.makeSlice 70 (.int .i64 n) (.int .i64 n)).run Try.prog w = .ok (.slice (some ⟨w.heap.size, 0, none⟩) n n) (w.alloc (.cells A 113))) :
    Calls Try.prog 14 #[.int .i64 n] w fun e w' => e = .returned (.tuple #[.pointer (some ⟨w.heap.size + 1, 0, none⟩), .int .i64 0]) ∧
      w' = (w.alloc (.cells A 113)).alloc (.cells #[.slice (some ⟨w.heap.size, 0, none⟩) n n, .slice none 0 0, .int .i64 (-1)] 73) := by
  have h1' : ¬ (n : Int) < 1 := by omega
  have h2' : ¬ (8192 : Int) < n := by omega
  go_enter Try.func14, Try.ntmps14
  go_wp2
  go_ret2
  exact ⟨rfl, rfl⟩

/-- New: a disk of n sectors, all 0, without an end to its life. -/
theorem new_ok (n : Nat) (w : World) (h1 : 1 ≤ n) (h2 : n ≤ 8192) :
    Calls Try.prog 14 #[.int .i64 n] w fun e w' => e = .returned (.tuple #[.pointer (some ⟨w.heap.size + 1, 0, none⟩), .int .i64 0]) ∧
      DiskAt w' w.heap.size (w.heap.size + 1) w.heap.size (.slice none 0 0) ⟨n, fun _ _ => 0, [], -1⟩ ∧ Only (fun _ => False) w w' ∧ w'.heap.size = w.heap.size + 2 := by
  obtain ⟨i0, hi0, hz0, hz1, hz2⟩ := info_parts info68
  refine (new_core n _ w (by omega) (by omega) (fun w => run_make w 70 113 i0 _ Try.underlying70 hi0 hz0 .i64 .i64 n n (by omega) (Int.le_refl _) (by rw [hz2]; omega) (by omega))).mono ?_
  rintro e w' ⟨rfl, rfl⟩
  rw [hz1, Int.toNat_natCast]
  refine ⟨rfl, ?_, ((Only.refl _ w).alloc _).alloc _, by simp⟩
  have hS : ((w.alloc (.cells (madeCells (Value.agg (secL (fun _ => 0)).toArray).cells (n * 32)) 113)).alloc (.cells #[.slice (some ⟨w.heap.size, 0, none⟩) n n, .slice none 0 0, .int .i64 (-1)] 73)).heap[w.heap.size]? = some (.cells (madeCells (Value.agg (secL (fun _ => 0)).toArray).cells (n * 32)) 113 (0, 0)) := heap_alloc2_old w _ _
  have hp : ((w.alloc (.cells (madeCells (Value.agg (secL (fun _ => 0)).toArray).cells (n * 32)) 113)).alloc (.cells #[.slice (some ⟨w.heap.size, 0, none⟩) n n, .slice none 0 0, .int .i64 (-1)] 73)).heap[w.heap.size + 1]? = some (.cells #[.slice (some ⟨w.heap.size, 0, none⟩) n n, .slice none 0 0, .int .i64 (-1)] 73 (0, 0)) := heap_alloc2_new w _ _
  have hcell : ∀ j, j < n * 32 → (madeCells (Value.agg (secL (fun _ => 0)).toArray).cells (n * 32))[j]? = some (.int .u8 0) := by
    intro j hj
    have hm : j % 32 < 32 := Nat.mod_lt _ (by omega)
    have : (secL (fun _ => 0))[j % 32]? = some (.int .u8 0) := secL_get _ _ hm
    simp [madeCells, hj, Value.cells, secL_length, this]
  exact { pB := by omega, SB := by omega, pS := by omega
          c0 := ⟨n, by rw [cell_of_row _ _ 0 _ _ _ hp]; rfl⟩
          c1 := by rw [cell_of_row _ _ 1 _ _ _ hp]; rfl
          c2 := by rw [cell_of_row _ _ 2 _ _ _ hp]; rfl
          f1 := frozen_of_row _ _ _ _ _ hp
          f2 := frozen_of_row _ _ _ _ _ hp
          secs := fun i hi => by
            constructor
            · intro j v hv
              have hj : j < 32 := by have := (List.getElem?_eq_some_iff.1 hv).1; rwa [secL_length] at this
              rw [secL_get _ _ hj] at hv
              rw [cell_of_row _ _ _ _ _ _ hS, hcell _ (by simp at hi; omega)]
              exact hv
            · intro j hj
              refine ⟨?_, frozen_of_row _ _ _ _ _ hS⟩
              rw [cell_of_row _ _ _ _ _ _ hS, hcell _ (by simp at hi; omega)]; rfl
          own := World.ownsRow_nil _ _ _ _
          hp := by simp [Value.ownBlock]
          hS := by simp [Value.ownBlock]
          n1 := h1, n2 := h2
          at_ := fun x hx => by cases hx
          l1 := by simp
          l2 := by simp }

set_option maxHeartbeats 400000 in
theorem write_len (p : Value) (k : Int) (a : Option Addr) (n c : Nat) (w : World) (hn : ((n : Int) == 32) = false) :
    Calls Try.prog 47 #[p, .int .i64 k, .slice a n c] w fun e w' => e = .returned (.int .i64 2) ∧ w' = w := by
  go_enter Try.func47, Try.ntmps47
  go_wp2
  go_ret
  exact ⟨rfl, rfl⟩
set_option maxHeartbeats 400000 in
theorem write_dead (p c : Nat) (a : Option Addr) (k : Int) (w : World) (h2 : w.cell? ⟨p, 2, none⟩ = some (.int .i64 0)) :
    Calls Try.prog 47 #[.pointer (some ⟨p, 0, none⟩), .int .i64 k, .slice a 32 c] w fun e w' => e = .returned (.int .i64 3) ∧ w' = w := by
  go_enter Try.func47, Try.ntmps47
  go_wp2_with (go_at_call 63; refine (reach_dead p k _ h2).mono ?_; rintro e w' ⟨rfl, rfl⟩)
  go_ret
  exact ⟨rfl, rfl⟩
set_option maxHeartbeats 400000 in
theorem write_out (p S n c bc : Nat) (a : Option Addr) (l k : Int) (w : World) (h0 : w.cell? ⟨p, 0, none⟩ = some (.slice (some ⟨S, 0, none⟩) n c)) (h2 : w.cell? ⟨p, 2, none⟩ = some (.int .i64 l)) (hl : (l == 0) = false) (hk : k < 0 ∨ n ≤ k) :
    Calls Try.prog 47 #[.pointer (some ⟨p, 0, none⟩), .int .i64 k, .slice a 32 bc] w fun e w' => e = .returned (.int .i64 4) ∧ w' = w := by
  go_enter Try.func47, Try.ntmps47
  go_wp2_with (go_at_call 63; refine (reach_out p S n c l k _ h0 h2 hl hk).mono ?_; rintro e w' ⟨rfl, rfl⟩)
  go_ret
  exact ⟨rfl, rfl⟩
end Go.Proofs.Ytpoakkdkibameab
namespace Go.Proofs.Ytpoakkdkibameab
open Go.RowKit
set_option linter.unusedSimpArgs false
set_option linter.unusedVariables false

/-- The bytes of a sector whose first bytes are z's, up to k, the others 0. -/
def fullF (z : Nat → Int) (k : Nat) : Nat → Int := fun j => if j < k then z j else 0
theorem fullF_set (z : Nat → Int) (k : Nat) : (secL (fullF z k)).toArray.setIfInBounds k (.int .u8 (z k)) = (secL (fullF z (k + 1))).toArray := by
  apply Array.ext
  · simp [secL_length]
  · intro i h1 h2
    simp [secL_length] at h1 h2
    simp [secL, Array.getElem_setIfInBounds, fullF]
    by_cases e : k = i
    · subst e; simp
    · simp [e]
      by_cases l : i < k
      · simp [l]; intro; omega
      · simp [l]; intro; omega
theorem secL_congr (f g : Nat → Int) (h : ∀ j, j < 32 → f j = g j) : secL f = secL g := by
  simp only [secL]
  apply List.map_congr_left
  intro j hj
  rw [h j (by simpa using hj)]
theorem fullF_big (z : Nat → Int) (n : Nat) (h : 32 ≤ n) : secL (fullF z 32) = secL (fullF z n) :=
  secL_congr _ _ fun j hj => by simp only [fullF]; rw [if_pos hj, if_pos (by omega)]
theorem mk32 (z : Nat → Int) (w : World) : (Instr.makeSlice 23 (.int .i64 32) (.int .i64 32)).run Try.prog w = .ok (.slice (some ⟨w.heap.size, 0, none⟩) 32 32) (w.alloc (.cells (secL (fullF z 0)).toArray 5)) := by kernel_rfl

theorem new_any (n : Nat) (w : World) (h1 : 1 ≤ n) (h2 : n ≤ 8192) :
    Calls Try.prog 14 #[.int .i64 n] w fun e w' => ∃ p S, e = .returned (.tuple #[.pointer (some ⟨p, 0, none⟩), .int .i64 0]) ∧
      DiskAt w' w.heap.size p S (.slice none 0 0) ⟨n, fun _ _ => 0, [], -1⟩ ∧ Only (fun _ => False) w w' :=
  (new_ok n w h1 h2).mono fun _ _ h => ⟨_, _, h.1, h.2.1, h.2.2.1⟩
end Go.Proofs.Ytpoakkdkibameab
namespace Go.Proofs.Ytpoakkdkibameab
open Go.RowKit
set_option linter.unusedSimpArgs false
set_option linter.unusedVariables false

theorem info4 : (Try.prog.info? 4).map (fun i => (i.zero, i.size, i.bytes)) = some (some (.bool false), 1, 1) := by kernel_rfl
def allL (n : Nat) (sec : Nat → Nat → Int) : List Value := (List.range (n * 32)).map fun k => .int .u8 (sec (k / 32) (k % 32))
theorem allL_length (n : Nat) (sec : Nat → Nat → Int) : (allL n sec).length = n * 32 := by simp [allL]
theorem allL_get (n : Nat) (sec : Nat → Nat → Int) (i j : Nat) (hi : i < n) (hj : j < 32) : (allL n sec)[i * 32 + j]? = some (.int .u8 (sec i j)) := by
  have h1 : i * 32 + j < n * 32 := by omega
  have h2 : (i * 32 + j) / 32 = i := by omega
  have h3 : (i * 32 + j) % 32 = j := by omega
  simp [allL, h1, h2, h3]
theorem allL_one (n : Nat) (sec : Nat → Nat → Int) : ∀ v ∈ allL n sec, v.oneCell' = true := by
  intro v hv
  simp only [allL, List.mem_map] at hv
  obtain ⟨k, _, rfl⟩ := hv
  rfl
theorem wrsL_one (l : List Wr) : ∀ v ∈ wrsL l, v.oneCell' = true := by
  intro v hv
  simp only [wrsL, List.mem_flatMap] at hv
  obtain ⟨x, _, hx⟩ := hv
  exact wrL_one _ _ _ v hx

theorem ownsRow_base {w : World} {B B' e size n : Nat} {v : Value} {xs : List Value} (h : w.ownsRow B e size v n xs) (hb : B' ≤ B) : w.ownsRow B' e size v n xs := by
  refine ⟨h.1, h.2.imp id ?_⟩
  rintro ⟨g, cap, cur, h1, h2, rest⟩
  exact ⟨g, cap, cur, h1, by omega, rest⟩


theorem barred {W W' : World} {B p S : Nat} {pv : Value} {d : DS} (h : DiskAt W B p S pv d) (l : Int) (hl1 : -1 ≤ l) (hl2 : l ≤ 9223372036854775807) (oP : Only (fun i => i = p) W W') (e0 : ∀ v, W.cell? ⟨p, 0, none⟩ = some v → W'.cell? ⟨p, 0, none⟩ = some v)
    (e1 : W'.cell? ⟨p, 1, none⟩ = some (.slice none 0 0)) (e2 : W'.cell? ⟨p, 2, none⟩ = some (.int .i64 l)) (f : ∀ a, W'.frozen? a = W.frozen? a) : DiskAt W' B p S (.slice none 0 0) { d with pend := [], life := l } := by
  have hSp : S ≠ p := Ne.symm h.pS
  obtain ⟨c, hc⟩ := h.c0
  exact { pB := h.pB, SB := h.SB, pS := h.pS
          c0 := ⟨c, e0 _ hc⟩
          c1 := e1
          c2 := e2
          f1 := (f _).trans h.f1
          f2 := (f _).trans h.f2
          secs := fun i hi => ⟨oP.range (h.secs i hi).1 hSp, oP.there (h.secs i hi).2 hSp⟩
          own := World.ownsRow_nil _ _ _ _
          hp := by simp [Value.ownBlock]
          hS := by simp [Value.ownBlock]
          n1 := h.n1, n2 := h.n2
          at_ := fun x hx => by cases hx
          l1 := hl1, l2 := hl2 }
/-- Barrier on a disk that lives. -/
theorem barrier_any (p S B : Nat) (pv : Value) (d : DS) (w : World) (h : DiskAt w B p S pv d) (hl : d.life ≠ 0) :
    Calls Try.prog 48 #[.pointer (some ⟨p, 0, none⟩)] w fun e w' => e = .returned (.int .i64 0) ∧ DiskAt w' B p S (.slice none 0 0) { d with pend := [], life := aged d.life } ∧ Only (fun i => i = p) w w' := by
  have h1 := h.l1
  have h2 := h.l2
  by_cases e : d.life = -1
  · refine (barrier_end p _ w h.c1 h.f1 (by rw [← e]; exact h.c2)).mono ?_
    rintro e' w' ⟨rfl, rfl⟩
    have oP : Only (fun i => i = p) w (w.setCell ⟨p, 1, none⟩ (.slice none 0 0)) := (Only.refl (fun i => i = p) w).setCell _ _ (fun _ => rfl)
    refine ⟨rfl, barred h _ (by simp [aged, e]) (by simp [aged, e]) oP (fun v hv => by rw [World.cell?_setCell_other _ _ _ _ (by simp)]; exact hv) (World.cell?_setCell_same _ _ _ h.c1) ?_ (fun a => by simp), oP⟩
    rw [World.cell?_setCell_other _ _ _ _ (by simp), h.c2, e]; rfl
  · refine (barrier_less p _ d.life w h.c1 h.f1 h.c2 h.f2 (by omega) h2).mono ?_
    rintro e' w' ⟨rfl, rfl⟩
    have oP : Only (fun i => i = p) w ((w.setCell ⟨p, 1, none⟩ (.slice none 0 0)).setCell ⟨p, 2, none⟩ (.int .i64 (d.life - 1))) := ((Only.refl (fun i => i = p) w).setCell _ _ (fun _ => rfl)).setCell _ _ (fun _ => rfl)
    refine ⟨rfl, barred h _ (by simp only [aged]; split <;> omega) (by simp only [aged]; split <;> omega) oP (fun v hv => by rw [World.cell?_setCell_other _ _ _ _ (by simp), World.cell?_setCell_other _ _ _ _ (by simp)]; exact hv) ?_ ?_ (fun a => by simp), oP⟩
    · rw [World.cell?_setCell_other _ _ _ _ (by simp), World.cell?_setCell_same _ _ _ h.c1]
    · rw [World.cell?_setCell_same _ _ _ ((World.cell?_setCell_other _ _ _ _ (by simp)).trans h.c2)]
      simp [aged, e]

/-- What Write answers, and what it leaves of a disk. -/
def DS.write (d : DS) (k : Int) (f : Nat → Int) (m : Nat) : Int × DS :=
  if m ≠ 32 then (2, d) else if d.life = 0 then (3, d) else if k < 0 ∨ (d.n : Int) ≤ k then (4, d)
  else (0, { d with sec := upd d.sec k.toNat f, pend := d.pend ++ [⟨k.toNat, d.sec k.toNat, f⟩], life := aged d.life })
theorem write_all (p S m c B : Nat) (a : Option Addr) (pv : Value) (d : DS) (k : Int) (f : Nat → Int) (w : World) (h : DiskAt w B p S pv d) (hr : RowAt w (.slice a m c) m 1 (fun j => .int .u8 (f j))) (hB : B ≤ w.heap.size) (hby : (d.pend.length + 1) * 72 ≤ 140737488355328) (hm : m ≤ 140737488351232) :
    Calls Try.prog 47 #[.pointer (some ⟨p, 0, none⟩), .int .i64 k, .slice a m c] w fun e w' => e = .returned (.int .i64 (d.write k f m).1) ∧ ∃ pv', DiskAt w' B p S pv' (d.write k f m).2 ∧ Only (diskB p S pv) w w' ∧ (∀ b, pv'.ownBlock = some b → pv.ownBlock = some b ∨ w.heap.size ≤ b) := by
  have same : ∀ (x : Int) (e : Ending) (w' : World), d.write k f m = (x, d) → e = .returned (.int .i64 x) ∧ w' = w → e = .returned (.int .i64 (d.write k f m).1) ∧ ∃ pv', DiskAt w' B p S pv' (d.write k f m).2 ∧ Only (diskB p S pv) w w' ∧ (∀ b, pv'.ownBlock = some b → pv.ownBlock = some b ∨ w.heap.size ≤ b) := by
    rintro x e w' hw ⟨rfl, rfl⟩
    rw [hw]
    exact ⟨rfl, pv, h, Only.refl _ _, fun b hb => .inl hb⟩
  obtain ⟨c0, hc0⟩ := h.c0
  by_cases e1 : m = 32
  · subst e1
    by_cases e2 : d.life = 0
    · refine (write_dead p c a k w (by rw [← e2]; exact h.c2)).mono fun e w' hh => same 3 e w' (by simp [DS.write, e2]) hh
    · by_cases e3 : k < 0 ∨ (d.n : Int) ≤ k
      · refine (write_out p S d.n c0 c a d.life k w hc0 h.c2 (by simpa using e2) e3).mono fun e w' hh => same 4 e w' (by simp [DS.write, e2, e3]) hh
      · obtain ⟨g, o, c', hv, hcell, hg⟩ := hr.at (by omega)
        simp only [Value.slice.injEq] at hv
        obtain ⟨rfl, _, rfl⟩ := hv
        have hk : k = (k.toNat : Int) := by omega
        have hrange : w.rangeAt g o (secL f) := fun j v hv => by
          have hj : j < 32 := by have := (List.getElem?_eq_some_iff.1 hv).1; rwa [secL_length] at this
          rw [secL_get _ _ hj] at hv
          rw [hcell j (by omega)]; exact hv
        have hwr : d.write k f 32 = (0, { d with sec := upd d.sec k.toNat f, pend := d.pend ++ [⟨k.toNat, d.sec k.toNat, f⟩], life := aged d.life }) := by simp [DS.write, e2, e3]
        rw [hwr]
        have := write_ok p S k.toNat g o c B pv d f w h e2 (by omega) hrange hB hby
        rw [← hk] at this
        exact this
  · refine (write_len _ k a m c w (by simp; omega)).mono fun e w' hh => same 2 e w' (by simp [DS.write, e1]) hh
end Go.Proofs.Ytpoakkdkibameab
namespace Go.Proofs.Ytpoakkdkibameab
open Go.RowKit Go.Maps
set_option linter.unusedSimpArgs false
set_option linter.unusedVariables false

section
variable {P : Program} (w : World)
/-- A map held against nil. -/
theorem equalIn_map_nil (d : Nat) (t k e : TypeId) (p : Option Nat) (h : P.underlying t = some (.map k e)) :
    (Op.equalIn (d + 1) t (.map p) (.map none)).run P w = .ok p.isNone w := by
  cases p <;> simp [Op.equalIn, run_underlying h]
theorem eql_map_nil (t k e : TypeId) (p : Option Nat) (h : P.underlying t = some (.map k e)) :
    (binOp .eql t (.map p) (.map none)).run P w = .ok (.bool p.isNone) w := by
  simp only [binOp]
  simp [show Op.equal t (.map p) (.map none) = Op.equalIn (9999 + 1) t (.map p) (.map none) from rfl, equalIn_map_nil w 9999 t k e p h]
/-- A type assertion to a map type that it is. -/
theorem typeAssert_map (t xT k e : TypeId) (v : Value) (h : P.underlying t = some (.map k e)) : (Instr.typeAssert (.iface t v) xT t false).run P w = .ok v w := by
  simp [Instr.typeAssert, run_underlying h, go_sem, Result.andThen]
theorem run_clone {r : Nat} {es : Array MapEntry} {clock : Nat} (t : TypeId) (hb : w.heap[r]? = some (.map es clock)) :
    (Extern.MapsClone.clone #[.iface t (.map (some r))]).run P w = .ok (.iface t (.map (some w.heap.size))) (w.alloc (.map es clock)) := by
  obtain ⟨bad, e⟩ : ∃ bad : Sem Value, Extern.MapsClone.clone #[.iface t (.map (some r))] = (getObj r >>= fun o => match o with
      | .map entries clock => (newObj (.map entries clock) >>= fun n => pure (.iface t (.map (some n))))
      | _ => bad) := ⟨_, rfl⟩
  rw [e]
  simp [MapKept.run_getObj_map hb, Result.andThen, go_sem]
end

set_option maxRecDepth 100000 in
set_option maxHeartbeats 2000000 in
theorem mclone_raw (b : Nat) (es : Array MapEntry) (clock : Nat) (w : World) (hb : w.heap[b]? = some (.map es clock)) :
    Calls Try.prog 50 #[.map (some b)] w fun e w' => e = .returned (.map (some w.heap.size)) ∧ w' = w.alloc (.map es clock) := by
  have hq := fun w => eql_map_nil (P := Try.prog) w 59 _ _ (some b) Try.underlying59
  go_enter Try.func50, Try.ntmps50
  go_wp2
  rw [run_callFunc_extern Try.func66 (by kernel_rfl) (by kernel_rfl) (by kernel_rfl) (e := Extern.MapsClone.clone) (by kernel_rfl), run_clone w 59 hb]
  simp only [Result.andThen]
  rw [Oper.upon_value]
  go_wp2
  rw [typeAssert_map _ 59 20 _ _ _ Try.underlying59]
  simp only [Result.andThen]
  rw [Oper.upon_value]
  go_wp2
  go_ret
  exact ⟨rfl, rfl⟩
theorem mclone_any (b : Nat) (l : List (Int × Value)) (w : World) (h : MapAt w b l) :
    Calls Try.prog 50 #[.map (some b)] w fun e w' => e = .returned (.map (some w.heap.size)) ∧ MapAt w' w.heap.size l ∧ Only (fun _ => False) w w' ∧ w'.heap.size = w.heap.size + 1 := by
  obtain ⟨es, clock, hb, F, hs, hD⟩ := h.own
  refine (mclone_raw b es clock w hb).mono ?_
  rintro e w' ⟨rfl, rfl⟩
  exact ⟨rfl, ⟨⟨es, clock, (MapKept.heap_alloc w _).1, F, hs, hD⟩, h.rise⟩, (Only.refl _ w).alloc _, by simp⟩

theorem eql_slice_nil {a : Option Addr} {n c : Nat} (w : World) : (binOp .eql 23 (.slice a n c) (.slice none 0 0)).run Try.prog w = .ok (.bool a.isNone) w := by
  cases a <;> kernel_rfl
set_option maxRecDepth 100000 in
set_option maxHeartbeats 2000000 in
/-- Bytes are cloned. -/
theorem bclone_any (v : Value) (zs : List Nat) (w : World) (h : BytesAt w v zs) :
    Calls Try.prog 21 #[v] w fun e w' => ∃ u, e = .returned u ∧ Fresh w' w.heap.size u zs ∧ Only (fun _ => False) w w' := by
  obtain ⟨i0, hi0, hz0, hz1, hz2⟩ := info_parts info5
  obtain ⟨a, cap, w', hr, own, ho⟩ := app_copy 23 5 i0 _ 1 Try.underlying23 hi0 hz0 hz1 hz2 rfl rfl w v zs.length _ h.1 (fun j => rfl) h.2.1
  rw [← BL_getD] at own
  have HR : Hid _ := hr
  have HF : Hid (Fresh w' w.heap.size (.slice a zs.length cap) zs) := ⟨own, h.2⟩
  have HO : Hid (Only (fun _ => False) w w') := ho
  have hem := empty23
  rcases h.1 with ⟨rfl, h0⟩ | ⟨ad, c, rfl, _, _⟩
  · have hn : zs = [] := List.eq_nil_of_length_eq_zero h0
    subst hn
    clear hr own ho h HR HF HO hem
    have hq := fun w => eql_slice_nil (a := none) (n := 0) (c := 0) w
    go_enter Try.func21, Try.ntmps21
    go_wp2
    go_ret
    exact ⟨_, rfl, ⟨World.ownsRow_nil _ _ _ _, by simp, fun z hz => by cases hz⟩, Only.refl _ _⟩
  · clear hr own ho h
    have hq := fun w => eql_slice_nil (a := some ad) (n := zs.length) (c := c) w
    go_enter Try.func21, Try.ntmps21
    go_wp2_with (at_builtin; refine wpList_append_run rfl _ _ 23 rfl _ _ (.slice a zs.length cap) rfl rfl HR.out ?_)
    go_ret
    exact ⟨_, rfl, HF.out, HO.out⟩
end Go.Proofs.Ytpoakkdkibameab
namespace Go.Proofs.Ytpoakkdkibameab
open Go.RowKit Go.Maps
set_option linter.unusedSimpArgs false
set_option linter.unusedVariables false

theorem RowAt.keep {W W' : World} {v : Value} {k size : Nat} {f : Nat → Value} {bs : Nat → Prop} (h : RowAt W v k size f) (ho : Only bs W W') (hn : ∀ b, v.ownBlock = some b → ¬ bs b) : RowAt W' v k size f := by
  rcases h with h | ⟨ad, c, hv, hkc, hc⟩
  · exact .inl h
  · exact .inr ⟨ad, c, hv, hkc, fun j hj => ho.cell (hc j hj) (hn _ (by rw [hv]; simp only [Value.ownBlock, Addr.add]; repeat' split <;> rfl))⟩
theorem BytesAt.keep {W W' : World} {v : Value} {zs : List Nat} {bs : Nat → Prop} (h : BytesAt W v zs) (ho : Only bs W W') (hn : ∀ b, v.ownBlock = some b → ¬ bs b) : BytesAt W' v zs := ⟨h.1.keep ho hn, h.2⟩

/-- Logical pages: number, page of the disk (0: nowhere), data. -/
abbrev Pgs := List (Int × Nat × List Nat)
/-- A store. -/
structure SS where
  size : Nat
  epoch : Nat
  sector : Nat
  tabs : List Nat
  com : Pgs
  now : Pgs

/-- A page's value: where it lies, and the slice of its data. -/
def pgV (sl : Int → Value) (p : Int × Nat × List Nat) : Value := .agg #[.int .i64 (p.2.1 : Nat), sl p.1]
/-- The map m holds the pages l; their data lie in blocks that av leaves out. -/
def PMap (w : World) (av : Nat → Prop) (m : Nat) (l : Pgs) : Prop :=
  ∃ sl : Int → Value, MapAt w m (l.map fun p => (p.1, pgV sl p)) ∧ ∀ p ∈ l, BytesAt w (sl p.1) p.2.2 ∧ ∀ b, (sl p.1).ownBlock = some b → b < w.heap.size ∧ ¬ av b

theorem PMap.rise {w : World} {av : Nat → Prop} {m : Nat} {l : Pgs} (h : PMap w av m l) : Rise l := by
  obtain ⟨sl, h, _⟩ := h
  exact (Rise.map _).1 h.rise
theorem PMap.lt {w : World} {av : Nat → Prop} {m : Nat} {l : Pgs} (h : PMap w av m l) : m < w.heap.size := by
  obtain ⟨sl, h, _⟩ := h
  exact h.lt
theorem PMap.frame {w w' : World} {av av' bs : Nat → Prop} {m : Nat} {l : Pgs} (h : PMap w av m l) (ho : Only bs w w') (hm : ¬ bs m) (hb : ∀ k, k < w.heap.size → bs k → av k) (ha : ∀ k, k < w.heap.size → av' k → av k) : PMap w' av' m l := by
  obtain ⟨sl, h1, h2⟩ := h
  refine ⟨sl, h1.frame ho hm, fun p hp => ?_⟩
  obtain ⟨h3, h4⟩ := h2 p hp
  refine ⟨h3.keep ho (fun b hb' e => (h4 b hb').2 (hb b (h4 b hb').1 e)), fun b hb' => ⟨Nat.lt_of_lt_of_le (h4 b hb').1 ho.size, fun e => (h4 b hb').2 (ha b (h4 b hb').1 e)⟩⟩

/-- The blocks of a store and of its disk that calls turn. -/
def mutB (dk : Nat → Prop) (s mc mn : Nat) : Nat → Prop := fun k => k = s ∨ k = mc ∨ k = mn ∨ dk k

/-- What a store keeps to. -/
structure SS.Wf (x : SS) : Prop where
  size : 3 ≤ x.size ∧ x.size ≤ 2048
  epoch : x.epoch < 18446744073709551616
  sector : x.sector = 0 ∨ x.sector = 4
  tabs : x.tabs.length ≤ 2048 ∧ ∀ t ∈ x.tabs, 2 ≤ t ∧ t < x.size
  com : ∀ p ∈ x.com, (0 ≤ p.1 ∧ p.1 < 728) ∧ (2 ≤ p.2.1 ∧ p.2.1 < x.size) ∧ p.2.2.length ≤ 116
  now : ∀ p ∈ x.now, (0 ≤ p.1 ∧ p.1 < 728) ∧ (p.2.1 = 0 ∨ 2 ≤ p.2.1 ∧ p.2.1 < x.size) ∧ p.2.2.length ≤ 116

def stL (p : Nat) (x : SS) (tv : Value) (mc mn : Nat) : List Value :=
  [.pointer (some ⟨p, 0, none⟩), .int .i64 (x.size : Nat), .int .u64 (x.epoch : Nat), .int .i64 (x.sector : Nat), tv, .map (some mc), .map (some mn)]

/-- The store x lies at block s, over the disk at p; its maps at mc and mn, its tables behind tv. -/
structure StAt (w : World) (dk : Nat → Prop) (s p mc mn : Nat) (tv : Value) (x : SS) : Prop where
  cells : w.rangeAt s 0 (stL p x tv mc mn)
  there : w.there s 0 7
  d1 : s ≠ mc
  d2 : s ≠ mn
  d3 : mc ≠ mn
  k1 : ¬ dk s
  k2 : ¬ dk mc
  k3 : ¬ dk mn
  tabs : RowAt w tv x.tabs.length 1 (fun j => .int .i64 (x.tabs.getD j 0 : Nat))
  tabsB : ∀ b, tv.ownBlock = some b → b < w.heap.size ∧ ¬ mutB dk s mc mn b
  com : PMap w (mutB dk s mc mn) mc x.com
  now : PMap w (mutB dk s mc mn) mn x.now
  wf : x.Wf

theorem StAt.lt {w : World} {dk : Nat → Prop} {s p mc mn : Nat} {tv : Value} {x : SS} (h : StAt w dk s p mc mn tv x) : s < w.heap.size :=
  World.block_lt_of_cell? w _ (h.cells 0 _ rfl)
/-- Calls on the disk, and whatever makes new memory, leave a store as it is. -/
theorem StAt.frame {w w' : World} {dk dk' bs : Nat → Prop} {s p mc mn : Nat} {tv : Value} {x : SS} (h : StAt w dk s p mc mn tv x) (ho : Only bs w w') (hb : ∀ k, k < w.heap.size → bs k → dk k) (hd : ∀ k, k < w.heap.size → dk' k → dk k) : StAt w' dk' s p mc mn tv x := by
  have hs := h.lt
  have hmc := h.com.lt
  have hmn := h.now.lt
  have ns : ¬ bs s := fun e => h.k1 (hb _ hs e)
  have nc : ¬ bs mc := fun e => h.k2 (hb _ hmc e)
  have nn : ¬ bs mn := fun e => h.k3 (hb _ hmn e)
  have ha : ∀ k, k < w.heap.size → mutB dk' s mc mn k → mutB dk s mc mn k := by
    rintro k hk (e | e | e | e)
    · exact .inl e
    · exact .inr (.inl e)
    · exact .inr (.inr (.inl e))
    · exact .inr (.inr (.inr (hd k hk e)))
  have hb' : ∀ k, k < w.heap.size → bs k → mutB dk s mc mn k := fun k hk e => .inr (.inr (.inr (hb k hk e)))
  exact { cells := ho.range h.cells ns, there := ho.there h.there ns, d1 := h.d1, d2 := h.d2, d3 := h.d3
          k1 := fun e => h.k1 (hd _ hs e), k2 := fun e => h.k2 (hd _ hmc e), k3 := fun e => h.k3 (hd _ hmn e)
          tabs := h.tabs.keep ho (fun b e e' => (h.tabsB b e).2 (hb' b (h.tabsB b e).1 e'))
          tabsB := fun b e => ⟨Nat.lt_of_lt_of_le (h.tabsB b e).1 ho.size, fun e' => (h.tabsB b e).2 (ha b (h.tabsB b e).1 e')⟩
          com := h.com.frame ho nc hb' ha, now := h.now.frame ho nn hb' ha, wf := h.wf }

set_option maxRecDepth 100000 in
set_option maxHeartbeats 400000 in
theorem usable_nil (w : World) : Calls Try.prog 27 #[.pointer none] w fun e w' => e = .returned (.int .i64 2) ∧ w' = w := by
  go_enter Try.func27, Try.ntmps27
  go_wp2
  go_ret
  exact ⟨rfl, rfl⟩
set_option maxRecDepth 100000 in
set_option maxHeartbeats 400000 in
theorem usable_dead (s : Nat) (w : World) (h : w.cell? ⟨s, 0, none⟩ = some (.pointer none)) : Calls Try.prog 27 #[.pointer (some ⟨s, 0, none⟩)] w fun e w' => e = .returned (.int .i64 3) ∧ w' = w := by
  go_enter Try.func27, Try.ntmps27
  go_wp2
  go_ret
  exact ⟨rfl, rfl⟩
set_option maxRecDepth 100000 in
set_option maxHeartbeats 400000 in
theorem usable_ok (s p : Nat) (w : World) (h : w.cell? ⟨s, 0, none⟩ = some (.pointer (some ⟨p, 0, none⟩))) : Calls Try.prog 27 #[.pointer (some ⟨s, 0, none⟩)] w fun e w' => e = .returned (.int .i64 0) ∧ w' = w := by
  go_enter Try.func27, Try.ntmps27
  go_wp2
  go_ret
  exact ⟨rfl, rfl⟩
set_option maxRecDepth 100000 in
set_option maxHeartbeats 400000 in
theorem sreach_nil (i : Int) (w : World) : Calls Try.prog 20 #[.pointer none, .int .i64 i] w fun e w' => e = .returned (.int .i64 2) ∧ w' = w := by
  go_enter Try.func20, Try.ntmps20
  go_wp2_with (go_at_call 27; refine (usable_nil _).mono ?_; rintro e w' ⟨rfl, rfl⟩)
  go_ret
  exact ⟨rfl, rfl⟩
set_option maxRecDepth 100000 in
set_option maxHeartbeats 400000 in
theorem sreach_out (s p : Nat) (i : Int) (w : World) (h : w.cell? ⟨s, 0, none⟩ = some (.pointer (some ⟨p, 0, none⟩))) (hi : i < 0 ∨ 728 ≤ i) : Calls Try.prog 20 #[.pointer (some ⟨s, 0, none⟩), .int .i64 i] w fun e w' => e = .returned (.int .i64 4) ∧ w' = w := by
  have HU := usable_ok s p w h
  clear h
  by_cases h1 : i < 0
  · go_enter Try.func20, Try.ntmps20
    go_wp2_with (go_at_call 27; refine HU.mono ?_; rintro e w' ⟨rfl, rfl⟩)
    go_ret
    exact ⟨rfl, rfl⟩
  · have h2 : 728 ≤ i := by omega
    have h3 : decide (i < 0) = false := by simpa using h1
    go_enter Try.func20, Try.ntmps20
    go_wp2_with (go_at_call 27; refine HU.mono ?_; rintro e w' ⟨rfl, rfl⟩)
    go_ret
    exact ⟨rfl, rfl⟩
set_option maxRecDepth 100000 in
set_option maxHeartbeats 400000 in
theorem sreach_ok (s p : Nat) (i : Int) (w : World) (h : w.cell? ⟨s, 0, none⟩ = some (.pointer (some ⟨p, 0, none⟩))) (hi : 0 ≤ i ∧ i < 728) : Calls Try.prog 20 #[.pointer (some ⟨s, 0, none⟩), .int .i64 i] w fun e w' => e = .returned (.int .i64 0) ∧ w' = w := by
  have HU := usable_ok s p w h
  clear h
  have h1 : ¬ i < 0 := by omega
  have h3 : decide (i < 0) = false := by simpa using h1
  have h2 : ¬ 728 ≤ i := by omega
  go_enter Try.func20, Try.ntmps20
  go_wp2_with (go_at_call 27; refine HU.mono ?_; rintro e w' ⟨rfl, rfl⟩)
  go_ret
  exact ⟨rfl, rfl⟩
end Go.Proofs.Ytpoakkdkibameab
