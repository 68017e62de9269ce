/- What readRoot answers. What (*loader).read answers. What (*loader).tables answers. -/
import Derived.Test.YtpoakkdkibameaaGreatGap
import Derived.Test.YtpoakkdkibameaaGreatGad
import Derived.Test.YtpoakkdkibameaaGreatGab
import Derived.Test.YtpoakkdkibameaaGreatGaf
import Derived.Test.YtpoakkdkibameaaGreatGae
namespace Go.Proofs.YtpoakkdkibameaaGreat
open Go.RowKit
set_option linter.unusedSimpArgs false
set_option linter.unusedVariables false

/-- The number at a part of bytes. -/
def part (zs : List Nat) (k m : Nat) : Nat := nof ((zs.drop k).take m)
/-- The parts of a root's 32 bytes: epoch, first, count; and whether it is one. -/
def rtE (zs : List Nat) : Nat := part zs 0 8
def rtF (zs : List Nat) : Nat := part zs 8 4
def rtC (zs : List Nat) : Nat := part zs 12 4
def rtOk (zs : List Nat) : Bool := part zs 0 8 != 0 && part zs 16 8 == 0 && part zs 24 8 == part zs 0 8

theorem part_lt {zs : List Nat} (h : ∀ z ∈ zs, z < 256) (p m : Nat) : part zs p m < 2 ^ (8 * m) :=
  Nat.lt_of_lt_of_le (nof_lt fun z hz => h z (List.mem_of_mem_drop (List.mem_of_mem_take hz))) (Nat.pow_le_pow_right (by omega) (by rw [List.length_take]; omega))

theorem results_root {fn : Func} {t u : Tmp} (h : fn.results = #[.cell u 105, .tmp t]) (tmps : Array Value) (w : World) (a : Addr) {x y z : Value} (hc : w.cell? ⟨a.block, a.off, none⟩ = some x ∧ w.cell? ⟨a.block, a.off + 1, none⟩ = some y ∧ w.cell? ⟨a.block, a.off + 2, none⟩ = some z) (ha : tmps.getD u undef = .pointer (some ⟨a.block, a.off, none⟩)) :
    (results fn tmps).run Tryz.prog w = .ok (.tuple #[.agg #[x, y, z], tmps.getD t undef]) w := by
  obtain ⟨h0, h1, h2⟩ := hc
  have ha' : tmps[u]?.getD undef = .pointer (some ⟨a.block, a.off, none⟩) := by simpa using ha
  simp [results, h, ha', asAddr, go_sem, loadVar, isAgg, Tryz.underlying105, h0, h1, h2]

set_option maxRecDepth 100000 in
set_option maxHeartbeats 4000000 in
theorem rroot_any (p S q B : Nat) (pv : Value) (d : DS) (w : World) (h : DiskAt w B p S pv d) (hl : d.life ≠ 0) (hq : q < d.n) (hb : ByteD d) :
    Calls Tryz.prog 86 #[.pointer (some ⟨p, 0, none⟩), .int .i64 q] w fun e w' => e = .returned (.tuple #[.agg #[.int .u64 (rtE (secN (d.sec q)) : Nat), .int .u32 (rtF (secN (d.sec q)) : Nat), .int .u32 (rtC (secN (d.sec q)) : Nat)], .bool (rtOk (secN (d.sec q)))]) ∧ Only (fun _ => False) w w' := by
  obtain ⟨wa, hwa⟩ : ∃ x, x = w.alloc (.cells #[.int .u64 0, .int .u32 0, .int .u32 0] 105) := ⟨_, rfl⟩
  have oa : Only (fun _ => False) w wa := by rw [hwa]; exact (Only.refl _ w).alloc _
  obtain ⟨N, hN⟩ : ∃ x, x = w.heap.size := ⟨_, rfl⟩
  have sa : wa.heap.size = N + 1 := by rw [hwa, hN]; simp
  have HRD : Hid (Calls Tryz.prog 10 #[.pointer (some ⟨p, 0, none⟩), .int .i64 q] wa fun e w' => e = .returned (.tuple #[.slice (some ⟨wa.heap.size, 0, none⟩) 32 32, .int .i64 0]) ∧ w' = wa.alloc (.cells (secL (d.sec q)).toArray 79)) := read_any p S q B pv d wa (h.frame oa (fun _ _ e => e)) hl hq
  obtain ⟨C, hC⟩ : ∃ C, C = (secL (d.sec q)).toArray := ⟨_, rfl⟩
  rw [← hC] at HRD
  obtain ⟨wb, hwb⟩ : ∃ x, x = wa.alloc (.cells C 79) := ⟨_, rfl⟩
  have ob : Only (fun _ => False) wa wb := by rw [hwb]; exact (Only.refl _ wa).alloc _
  obtain ⟨zs, hzs⟩ : ∃ x, x = secN (d.sec q) := ⟨_, rfl⟩
  have hzl : zs.length = 32 := by rw [hzs, secN_length]
  have hz256 : ∀ z ∈ zs, z < 256 := by rw [hzs]; exact secN_lt (hb.sec q)
  have hby : BytesAt wb (.slice (some ⟨N + 1, 0, none⟩) 32 32) zs := by
    rw [hzs]
    refine sec_bytes ?_ (by omega) (hb.sec q)
    intro j v hv
    rw [hwb, hC, Nat.zero_add, ← sa, cell_of_row _ _ _ _ _ _ (heap_alloc_new wa _)]
    simpa using hv
  have ba : wb.heap[N]? = some (.cells #[.int .u64 0, .int .u32 0, .int .u32 0] 105 (0, 0)) := by
    rw [ob.block N (by omega) (fun e => e), hwa, hN]; exact heap_alloc_new w _
  rw [← hwb, sa] at HRD
  rw [← hzs]
  have HBY : Hid (BytesAt wb (.slice (some ⟨N + 1, 0, none⟩) 32 32) zs) := hby
  have HNM : Hid (∀ w' k m c', Only (fun i => i = N) wb w' → k + m ≤ 32 → m ≤ 8 → m ≤ c' → Calls Tryz.prog 114 #[.slice (some ⟨N + 1, k, none⟩) m c'] w' fun e w2 => e = .returned (.int .u64 (part zs k m : Nat)) ∧ w2 = w') := fun w' k m c' ho hk hm hc' => by
    have h2 : BytesAt w' (.slice (some ⟨N + 1, 0, none⟩) 32 32) zs := hby.keep ho (fun i hi e => by simp [Value.ownBlock] at hi; omega)
    have := h2.cut k m c' (by omega) hc'
    rw [Nat.zero_add] at this
    exact snum_any _ _ w' this (by rw [List.length_take]; omega)
  have HE256 := part_lt hz256 0 8
  have HF256 := part_lt hz256 8 4
  have HC256 := part_lt hz256 12 4
  have hf32 : IntKind.u32.wrap (part zs 8 4 : Int) = (part zs 8 4 : Int) := by rw [IntKind.wrap_u32]; omega
  have hc32 : IntKind.u32.wrap (part zs 12 4 : Int) = (part zs 12 4 : Int) := by rw [IntKind.wrap_u32]; omega
  have OD : Hid (Only (fun i => i = N) wb wb.drew) := (Only.refl _ wb).drew
  have HWA : Hid (wa = w.alloc (.cells #[.int .u64 0, .int .u32 0, .int .u32 0] 105)) := hwa
  have HNN : Hid (N = w.heap.size) := hN
  have HBA : Hid (wb.heap[N]? = some (.cells #[.int .u64 0, .int .u32 0, .int .u32 0] 105 (0, 0))) := ba
  have HOB : Hid (Only (fun _ => False) w wb) := oa.trans ob (fun _ _ e => e)
  have x0 : wb.cell? ⟨N, 0, none⟩ = some (.int .u64 0) := by rw [cell_of_row _ _ _ _ _ _ ba]; rfl
  have x1 : wb.cell? ⟨N, 1, none⟩ = some (.int .u32 0) := by rw [cell_of_row _ _ _ _ _ _ ba]; rfl
  have x2 : wb.cell? ⟨N, 2, none⟩ = some (.int .u32 0) := by rw [cell_of_row _ _ _ _ _ _ ba]; rfl
  have z0 : wb.frozen? ⟨N, 0, none⟩ = false := frozen_of_row _ _ _ _ _ ba
  have z1 : wb.frozen? ⟨N, 1, none⟩ = false := frozen_of_row _ _ _ _ _ ba
  have z2 : wb.frozen? ⟨N, 2, none⟩ = false := frozen_of_row _ _ _ _ _ ba
  clear h hl hq hb hwa oa hN sa hC hwb ob hzs hzl hz256 hby ba HE256 HF256 HC256
  go_enter Tryz.func86, Tryz.ntmps86
  go_wp2_with fail
  rw [← HWA.out, ← HNN.out]
  refine (show Calls Tryz.prog 10 _ _ _ from HRD.out).mono ?_
  rintro e w1 ⟨rfl, rfl⟩
  clear HRD
  go_wp2_with fail
  go_region_held3 (fun _ => True) (trivial) (first
    | (go_at_call 114; refine (HNM.out _ _ _ _ OD.out (by omega) (by omega) (by omega)).mono ?_; rintro e w' ⟨rfl, rfl⟩))
  obtain ⟨w2, hw2⟩ : ∃ x, x = ((w1.setCell ⟨N, 0, none⟩ (.int .u64 (part zs 0 8 : Nat))).setCell ⟨N, 1, none⟩ (.int .u32 (part zs 8 4 : Nat))).setCell ⟨N, 2, none⟩ (.int .u32 (part zs 12 4 : Nat)) := ⟨_, rfl⟩
  have HW2 : Hid (w2 = ((w1.setCell ⟨N, 0, none⟩ (.int .u64 (part zs 0 8 : Nat))).setCell ⟨N, 1, none⟩ (.int .u32 (part zs 8 4 : Nat))).setCell ⟨N, 2, none⟩ (.int .u32 (part zs 12 4 : Nat))) := hw2
  have o2 : Only (fun i => i = N) w1 w2 := by
    rw [hw2]
    exact (((Only.refl (fun i => i = N) w1).setCell ⟨N, 0, none⟩ _ (fun _ => rfl)).setCell ⟨N, 1, none⟩ _ (fun _ => rfl)).setCell ⟨N, 2, none⟩ _ (fun _ => rfl)
  have OD2 : Hid (Only (fun i => i = N) w1 w2.drew) := o2.drew
  have y0 : w2.cell? ⟨N, 0, none⟩ = some (.int .u64 (part zs 0 8 : Nat)) := by rw [hw2]; simp [go_sem, x0, x1, x2]
  have y1 : w2.cell? ⟨N, 1, none⟩ = some (.int .u32 (part zs 8 4 : Nat)) := by rw [hw2]; simp [go_sem, x0, x1, x2]
  have y2 : w2.cell? ⟨N, 2, none⟩ = some (.int .u32 (part zs 12 4 : Nat)) := by rw [hw2]; simp [go_sem, x0, x1, x2]
  have v0 : w2.frozen? ⟨N, 0, none⟩ = false := by rw [hw2]; simp [go_sem, z0]
  have v1 : w2.frozen? ⟨N, 1, none⟩ = false := by rw [hw2]; simp [go_sem, z1]
  have v2 : w2.frozen? ⟨N, 2, none⟩ = false := by rw [hw2]; simp [go_sem, z2]
  clear o2 x0 x1 x2 z0 z1 z2 hw2
  go_wp2_with fail
  rw [← HW2.out]
  have OD3 : Hid (Only (fun i => i = N) w1 w2.drew.drew) := OD2.out.drew
  have HST : Hid ((Instr.storeAt 105 (.pointer (some ⟨N, 0, none⟩)) (.agg #[.int .u64 ((part zs 0 8 : Nat) : Int), .int .u32 ((part zs 8 4 : Nat) : Int), .int .u32 ((part zs 12 4 : Nat) : Int)])).run Tryz.prog w2.drew.drew = .ok () (((w2.drew.drew.setCell ⟨N, 0, none⟩ (.int .u64 ((part zs 0 8 : Nat) : Int))).setCell ⟨N, 1, none⟩ (.int .u32 ((part zs 8 4 : Nat) : Int))).setCell ⟨N, 2, none⟩ (.int .u32 ((part zs 12 4 : Nat) : Int)))) := by
    show _ = _
    go_simp
  have HY3 : Hid ((((w2.drew.drew.setCell ⟨N, 0, none⟩ (.int .u64 ((part zs 0 8 : Nat) : Int))).setCell ⟨N, 1, none⟩ (.int .u32 ((part zs 8 4 : Nat) : Int))).setCell ⟨N, 2, none⟩ (.int .u32 ((part zs 12 4 : Nat) : Int))).cell? ⟨N, 0, none⟩ = some (.int .u64 ((part zs 0 8 : Nat) : Int)) ∧ (((w2.drew.drew.setCell ⟨N, 0, none⟩ (.int .u64 ((part zs 0 8 : Nat) : Int))).setCell ⟨N, 1, none⟩ (.int .u32 ((part zs 8 4 : Nat) : Int))).setCell ⟨N, 2, none⟩ (.int .u32 ((part zs 12 4 : Nat) : Int))).cell? ⟨N, 1, none⟩ = some (.int .u32 ((part zs 8 4 : Nat) : Int)) ∧ (((w2.drew.drew.setCell ⟨N, 0, none⟩ (.int .u64 ((part zs 0 8 : Nat) : Int))).setCell ⟨N, 1, none⟩ (.int .u32 ((part zs 8 4 : Nat) : Int))).setCell ⟨N, 2, none⟩ (.int .u32 ((part zs 12 4 : Nat) : Int))).cell? ⟨N, 2, none⟩ = some (.int .u32 ((part zs 12 4 : Nat) : Int))) := by
    refine ⟨?_, ?_, ?_⟩ <;> simp [go_sem, y0, y1, y2]
  have HO3 : Hid (Only (fun _ => False) w (((w2.drew.drew.setCell ⟨N, 0, none⟩ (.int .u64 ((part zs 0 8 : Nat) : Int))).setCell ⟨N, 1, none⟩ (.int .u32 ((part zs 8 4 : Nat) : Int))).setCell ⟨N, 2, none⟩ (.int .u32 ((part zs 12 4 : Nat) : Int)))) := by
    have := (((OD3.out).setCell ⟨N, 0, none⟩ (.int .u64 ((part zs 0 8 : Nat) : Int)) (fun _ => rfl)).setCell ⟨N, 1, none⟩ (.int .u32 ((part zs 8 4 : Nat) : Int)) (fun _ => rfl)).setCell ⟨N, 2, none⟩ (.int .u32 ((part zs 12 4 : Nat) : Int)) (fun _ => rfl)
    exact HOB.out.trans this (fun i hi e => by have := HNN.out; omega)
  by_cases he : part zs 0 8 = 0
  · have g1 : (((part zs 0 8 : Nat) : Int) != 0) = false := by rw [he]; rfl
    refine wp_region_noPanic ?_
    refine wp_region_held_drew (S := fun w' => w'.cell? ⟨N, 0, none⟩ = some (.int .u64 ((part zs 0 8 : Nat) : Int)) ∧ w'.cell? ⟨N, 1, none⟩ = some (.int .u32 ((part zs 8 4 : Nat) : Int)) ∧ w'.cell? ⟨N, 2, none⟩ = some (.int .u32 ((part zs 12 4 : Nat) : Int))) (by kernel_rfl) ?_ (fun hHeld => ?_)
    · exact ⟨by simpa using y0, by simpa using y1, by simpa using y2⟩
    refine wpAnyH_take (i := 0) (v := .agg #[.int .u64 ((part zs 0 8 : Nat) : Int), .int .u32 ((part zs 8 4 : Nat) : Int), .int .u32 ((part zs 12 4 : Nat) : Int)]) rfl (by kernel_rfl) (by kernel_rfl) (by kernel_rfl) (fun _ _ _ h => h) (Or.inl ⟨by rfl, fun wx hSw => by go_simp⟩) hHeld ?_
    simp only [Act.put, List.setIfInBounds_toArray, List.set_cons_zero, List.set_cons_succ, List.getElem_toArray, List.getElem_cons_zero, List.getElem_cons_succ]
    refine wpAnyH_take (i := 1) (v := .pointer (some ⟨N, 0, none⟩)) rfl (by kernel_rfl) (by kernel_rfl) (by kernel_rfl) (fun _ _ _ h => h) (Or.inl ⟨by rfl, fun wx hSw => by go_simp⟩) hHeld ?_
    simp only [Act.put, List.setIfInBounds_toArray, List.set_cons_zero, List.set_cons_succ, List.getElem_toArray, List.getElem_cons_zero, List.getElem_cons_succ]
    refine wpAnyH_take (i := 2) (v := .int .u64 ((part zs 0 8 : Nat) : Int)) rfl (by kernel_rfl) (by kernel_rfl) (by kernel_rfl) (fun _ _ _ h => h) (Or.inl ⟨by rfl, fun wx hSw => by go_simp⟩) hHeld ?_
    simp only [Act.put, List.setIfInBounds_toArray, List.set_cons_zero, List.set_cons_succ, List.getElem_toArray, List.getElem_cons_zero, List.getElem_cons_succ]
    refine wpAnyH_take (i := 3) (v := .bool false) rfl (by kernel_rfl) (by kernel_rfl) (by kernel_rfl) (fun _ _ _ h => h) (Or.inl ⟨by rfl, fun wx hSw => by go_simp⟩) hHeld ?_
    simp only [Act.put, List.setIfInBounds_toArray, List.set_cons_zero, List.set_cons_succ, List.getElem_toArray, List.getElem_cons_zero, List.getElem_cons_succ]
    refine wpAnyH_take (i := 4) (v := .bool false) rfl (by kernel_rfl) (by kernel_rfl) (by kernel_rfl) (fun _ _ _ h => h) (Or.inl ⟨by rfl, fun wx hSw => by go_simp⟩) hHeld ?_
    simp only [Act.put, List.setIfInBounds_toArray, List.set_cons_zero, List.set_cons_succ, List.getElem_toArray, List.getElem_cons_zero, List.getElem_cons_succ]
    refine wpAnyH_take (i := 5) (v := undef) rfl (by kernel_rfl) (by kernel_rfl) (by kernel_rfl) (fun _ _ _ h => h) (Or.inr ⟨by rfl, rfl⟩) hHeld ?_
    simp only [Act.put, List.setIfInBounds_toArray, List.set_cons_zero, List.set_cons_succ, List.getElem_toArray, List.getElem_cons_zero, List.getElem_cons_succ]
    refine wpAnyH_take (i := 6) (v := undef) rfl (by kernel_rfl) (by kernel_rfl) (by kernel_rfl) (fun _ _ _ h => h) (Or.inr ⟨by rfl, rfl⟩) hHeld ?_
    simp only [Act.put, List.setIfInBounds_toArray, List.set_cons_zero, List.set_cons_succ, List.getElem_toArray, List.getElem_cons_zero, List.getElem_cons_succ]
    refine wpAnyH_take (i := 7) (v := undef) rfl (by kernel_rfl) (by kernel_rfl) (by kernel_rfl) (fun _ _ _ h => h) (Or.inr ⟨by rfl, rfl⟩) hHeld ?_
    simp only [Act.put, List.setIfInBounds_toArray, List.set_cons_zero, List.set_cons_succ, List.getElem_toArray, List.getElem_cons_zero, List.getElem_cons_succ]
    refine wpAnyH_take (i := 8) (v := undef) rfl (by kernel_rfl) (by kernel_rfl) (by kernel_rfl) (fun _ _ _ h => h) (Or.inr ⟨by rfl, rfl⟩) hHeld ?_
    simp only [Act.put, List.setIfInBounds_toArray, List.set_cons_zero, List.set_cons_succ, List.getElem_toArray, List.getElem_cons_zero, List.getElem_cons_succ]
    refine wpAnyH_take (i := 9) (v := .bool false) rfl (by kernel_rfl) (by kernel_rfl) (by kernel_rfl) (fun _ _ _ h => h) (Or.inl ⟨by rfl, fun wx hSw => by go_simp⟩) hHeld ?_
    simp only [Act.put, List.setIfInBounds_toArray, List.set_cons_zero, List.set_cons_succ, List.getElem_toArray, List.getElem_cons_zero, List.getElem_cons_succ]
    refine wpAnyH_take (i := 10) (v := .bool false) rfl (by kernel_rfl) (by kernel_rfl) (by kernel_rfl) (fun _ _ _ h => h) (Or.inl ⟨by rfl, fun wx hSw => by go_simp⟩) hHeld ?_
    simp only [Act.put, List.setIfInBounds_toArray, List.set_cons_zero, List.set_cons_succ, List.getElem_toArray, List.getElem_cons_zero, List.getElem_cons_succ]
    refine wpAnyH_take (i := 11) (v := undef) rfl (by kernel_rfl) (by kernel_rfl) (by kernel_rfl) (fun _ _ _ h => h) (Or.inr ⟨by rfl, rfl⟩) hHeld ?_
    simp only [Act.put, List.setIfInBounds_toArray, List.set_cons_zero, List.set_cons_succ, List.getElem_toArray, List.getElem_cons_zero, List.getElem_cons_succ]
    refine wpAnyH_take (i := 12) (v := undef) rfl (by kernel_rfl) (by kernel_rfl) (by kernel_rfl) (fun _ _ _ h => h) (Or.inr ⟨by rfl, rfl⟩) hHeld ?_
    simp only [Act.put, List.setIfInBounds_toArray, List.set_cons_zero, List.set_cons_succ, List.getElem_toArray, List.getElem_cons_zero, List.getElem_cons_succ]
    refine wpAnyH_take (i := 13) (v := undef) rfl (by kernel_rfl) (by kernel_rfl) (by kernel_rfl) (fun _ _ _ h => h) (Or.inr ⟨by rfl, rfl⟩) hHeld ?_
    simp only [Act.put, List.setIfInBounds_toArray, List.set_cons_zero, List.set_cons_succ, List.getElem_toArray, List.getElem_cons_zero, List.getElem_cons_succ]
    refine wpAnyH_take (i := 14) (v := undef) rfl (by kernel_rfl) (by kernel_rfl) (by kernel_rfl) (fun _ _ _ h => h) (Or.inr ⟨by rfl, rfl⟩) hHeld ?_
    simp only [Act.put, List.setIfInBounds_toArray, List.set_cons_zero, List.set_cons_succ, List.getElem_toArray, List.getElem_cons_zero, List.getElem_cons_succ]
    refine wpAnyH_take (i := 15) (v := undef) rfl (by kernel_rfl) (by kernel_rfl) (by kernel_rfl) (fun _ _ _ h => h) (Or.inr ⟨by rfl, rfl⟩) hHeld ?_
    simp only [Act.put, List.setIfInBounds_toArray, List.set_cons_zero, List.set_cons_succ, List.getElem_toArray, List.getElem_cons_zero, List.getElem_cons_succ]
    refine wpAnyH_take (i := 16) (v := undef) rfl (by kernel_rfl) (by kernel_rfl) (by kernel_rfl) (fun _ _ _ h => h) (Or.inr ⟨by rfl, rfl⟩) hHeld ?_
    simp only [Act.put, List.setIfInBounds_toArray, List.set_cons_zero, List.set_cons_succ, List.getElem_toArray, List.getElem_cons_zero, List.getElem_cons_succ]
    refine wpAnyH_take (i := 17) (v := .bool false) rfl (by kernel_rfl) (by kernel_rfl) (by kernel_rfl) (fun _ _ _ h => h) (Or.inl ⟨by rfl, fun wx hSw => by go_simp⟩) hHeld ?_
    simp only [Act.put, List.setIfInBounds_toArray, List.set_cons_zero, List.set_cons_succ, List.getElem_toArray, List.getElem_cons_zero, List.getElem_cons_succ]
    refine wpAnyH_ready (rs := [18]) (by kernel_rfl) (by simp) ?_
    refine AllReadyH.cons rfl (fun K hK => ?_) AllReadyH.nil
    rw [if_pos (by rfl)]
    refine wp_unit rfl (HST.out) ?_
    refine hK.out _ _ HY3.out (fun hHeld => ?_)
    clear hK K
    simp only [Act.put, List.setIfInBounds_toArray, List.set_cons_zero, List.set_cons_succ, List.getElem_toArray, List.getElem_cons_zero, List.getElem_cons_succ]
    refine wpAnyH_take (i := 19) (v := .bool false) rfl (by kernel_rfl) (by kernel_rfl) (by kernel_rfl) (fun _ _ _ h => h) (Or.inl ⟨by rfl, fun wx hSw => by go_simp⟩) hHeld ?_
    simp only [Act.put, List.setIfInBounds_toArray, List.set_cons_zero, List.set_cons_succ, List.getElem_toArray, List.getElem_cons_zero, List.getElem_cons_succ]
    refine wpAnyH_done (by kernel_rfl) ?_ _
    refine NoPanic.normal ?_
    go_wp2
    have HOK : Hid (rtOk zs = false) := by
      show rtOk zs = _
      unfold rtOk
      simp [he]
    refine bodyPost_ret (results_root rfl _ _ ⟨N, 0, none⟩ HY3.out rfl) rfl ?_
    rw [HOK.out]
    exact ⟨rfl, HO3.out⟩
  by_cases hz : part zs 16 8 = 0
  · have g1 : (((part zs 0 8 : Nat) : Int) != 0) = true := by simpa using he
    have g2 : (((part zs 16 8 : Nat) : Int) == 0) = true := by simpa using hz
    refine wp_region_noPanic ?_
    refine wp_region_held_drew (S := fun w' => w'.cell? ⟨N, 0, none⟩ = some (.int .u64 ((part zs 0 8 : Nat) : Int)) ∧ w'.cell? ⟨N, 1, none⟩ = some (.int .u32 ((part zs 8 4 : Nat) : Int)) ∧ w'.cell? ⟨N, 2, none⟩ = some (.int .u32 ((part zs 12 4 : Nat) : Int))) (by kernel_rfl) ?_ (fun hHeld => ?_)
    · exact ⟨by simpa using y0, by simpa using y1, by simpa using y2⟩
    refine wpAnyH_take (i := 0) (v := .agg #[.int .u64 ((part zs 0 8 : Nat) : Int), .int .u32 ((part zs 8 4 : Nat) : Int), .int .u32 ((part zs 12 4 : Nat) : Int)]) rfl (by kernel_rfl) (by kernel_rfl) (by kernel_rfl) (fun _ _ _ h => h) (Or.inl ⟨by rfl, fun wx hSw => by go_simp⟩) hHeld ?_
    simp only [Act.put, List.setIfInBounds_toArray, List.set_cons_zero, List.set_cons_succ, List.getElem_toArray, List.getElem_cons_zero, List.getElem_cons_succ]
    refine wpAnyH_take (i := 1) (v := .pointer (some ⟨N, 0, none⟩)) rfl (by kernel_rfl) (by kernel_rfl) (by kernel_rfl) (fun _ _ _ h => h) (Or.inl ⟨by rfl, fun wx hSw => by go_simp⟩) hHeld ?_
    simp only [Act.put, List.setIfInBounds_toArray, List.set_cons_zero, List.set_cons_succ, List.getElem_toArray, List.getElem_cons_zero, List.getElem_cons_succ]
    refine wpAnyH_take (i := 2) (v := .int .u64 ((part zs 0 8 : Nat) : Int)) rfl (by kernel_rfl) (by kernel_rfl) (by kernel_rfl) (fun _ _ _ h => h) (Or.inl ⟨by rfl, fun wx hSw => by go_simp⟩) hHeld ?_
    simp only [Act.put, List.setIfInBounds_toArray, List.set_cons_zero, List.set_cons_succ, List.getElem_toArray, List.getElem_cons_zero, List.getElem_cons_succ]
    refine wpAnyH_take (i := 3) (v := .bool true) rfl (by kernel_rfl) (by kernel_rfl) (by kernel_rfl) (fun _ _ _ h => h) (Or.inl ⟨by rfl, fun wx hSw => by go_simp⟩) hHeld ?_
    simp only [Act.put, List.setIfInBounds_toArray, List.set_cons_zero, List.set_cons_succ, List.getElem_toArray, List.getElem_cons_zero, List.getElem_cons_succ]
    refine wpAnyH_take (i := 4) (v := .bool true) rfl (by kernel_rfl) (by kernel_rfl) (by kernel_rfl) (fun _ _ _ h => h) (Or.inl ⟨by rfl, fun wx hSw => by go_simp⟩) hHeld ?_
    simp only [Act.put, List.setIfInBounds_toArray, List.set_cons_zero, List.set_cons_succ, List.getElem_toArray, List.getElem_cons_zero, List.getElem_cons_succ]
    refine wpAnyH_take (i := 5) (v := .slice (some ⟨N + 1, 0, none⟩) 32 32) rfl (by kernel_rfl) (by kernel_rfl) (by kernel_rfl) (fun _ _ _ h => h) (Or.inl ⟨by rfl, fun wx hSw => by go_simp⟩) hHeld ?_
    simp only [Act.put, List.setIfInBounds_toArray, List.set_cons_zero, List.set_cons_succ, List.getElem_toArray, List.getElem_cons_zero, List.getElem_cons_succ]
    refine wpAnyH_take (i := 6) (v := .slice (some ⟨N + 1, 16, none⟩) 8 16) rfl (by kernel_rfl) (by kernel_rfl) (by kernel_rfl) (fun _ _ _ h => h) (Or.inl ⟨by rfl, fun wx hSw => by go_simp⟩) hHeld ?_
    simp only [Act.put, List.setIfInBounds_toArray, List.set_cons_zero, List.set_cons_succ, List.getElem_toArray, List.getElem_cons_zero, List.getElem_cons_succ]
    refine wpAnyH_ready (rs := [7]) (by kernel_rfl) (by simp) ?_
    refine AllReadyH.cons rfl (fun K hK => ?_) AllReadyH.nil
    rw [if_pos (by rfl)]
    refine wp_call_func #[.tmp 35] #[37] rfl #[.slice (some ⟨N + 1, 16, none⟩) 8 16] (by simp [Act.eval]) (enters_of Tryz.func114 (by kernel_rfl) rfl) (HNM.out _ 16 8 16 OD3.out (by omega) (by omega) (by omega)) (fun e W4 he4 => ?_)
    obtain ⟨rfl, rfl⟩ := he4
    refine ⟨_, rfl, ?_⟩
    refine hK.out _ _ hHeld (fun hHeld => ?_)
    clear hK K
    simp only [Act.put, List.setIfInBounds_toArray, List.set_cons_zero, List.set_cons_succ, List.getElem_toArray, List.getElem_cons_zero, List.getElem_cons_succ]
    refine wpAnyH_take (i := 8) (v := .bool true) rfl (by kernel_rfl) (by kernel_rfl) (by kernel_rfl) (fun _ _ _ h => h) (Or.inl ⟨by rfl, fun wx hSw => by go_simp⟩) hHeld ?_
    simp only [Act.put, List.setIfInBounds_toArray, List.set_cons_zero, List.set_cons_succ, List.getElem_toArray, List.getElem_cons_zero, List.getElem_cons_succ]
    refine wpAnyH_take (i := 9) (v := .bool true) rfl (by kernel_rfl) (by kernel_rfl) (by kernel_rfl) (fun _ _ _ h => h) (Or.inl ⟨by rfl, fun wx hSw => by go_simp⟩) hHeld ?_
    simp only [Act.put, List.setIfInBounds_toArray, List.set_cons_zero, List.set_cons_succ, List.getElem_toArray, List.getElem_cons_zero, List.getElem_cons_succ]
    refine wpAnyH_take (i := 10) (v := .bool true) rfl (by kernel_rfl) (by kernel_rfl) (by kernel_rfl) (fun _ _ _ h => h) (Or.inl ⟨by rfl, fun wx hSw => by go_simp⟩) hHeld ?_
    simp only [Act.put, List.setIfInBounds_toArray, List.set_cons_zero, List.set_cons_succ, List.getElem_toArray, List.getElem_cons_zero, List.getElem_cons_succ]
    refine wpAnyH_take (i := 11) (v := .slice (some ⟨N + 1, 0, none⟩) 32 32) rfl (by kernel_rfl) (by kernel_rfl) (by kernel_rfl) (fun _ _ _ h => h) (Or.inl ⟨by rfl, fun wx hSw => by go_simp⟩) hHeld ?_
    simp only [Act.put, List.setIfInBounds_toArray, List.set_cons_zero, List.set_cons_succ, List.getElem_toArray, List.getElem_cons_zero, List.getElem_cons_succ]
    refine wpAnyH_take (i := 12) (v := .slice (some ⟨N + 1, 24, none⟩) 8 8) rfl (by kernel_rfl) (by kernel_rfl) (by kernel_rfl) (fun _ _ _ h => h) (Or.inl ⟨by rfl, fun wx hSw => by go_simp⟩) hHeld ?_
    simp only [Act.put, List.setIfInBounds_toArray, List.set_cons_zero, List.set_cons_succ, List.getElem_toArray, List.getElem_cons_zero, List.getElem_cons_succ]
    refine wpAnyH_take (i := 14) (v := .pointer (some ⟨N, 0, none⟩)) rfl (by kernel_rfl) (by kernel_rfl) (by kernel_rfl) (fun _ _ _ h => h) (Or.inl ⟨by rfl, fun wx hSw => by go_simp⟩) hHeld ?_
    simp only [Act.put, List.setIfInBounds_toArray, List.set_cons_zero, List.set_cons_succ, List.getElem_toArray, List.getElem_cons_zero, List.getElem_cons_succ]
    refine wpAnyH_take (i := 15) (v := .int .u64 ((part zs 0 8 : Nat) : Int)) rfl (by kernel_rfl) (by kernel_rfl) (by kernel_rfl) (fun _ _ _ h => h) (Or.inl ⟨by rfl, fun wx hSw => by go_simp⟩) hHeld ?_
    simp only [Act.put, List.setIfInBounds_toArray, List.set_cons_zero, List.set_cons_succ, List.getElem_toArray, List.getElem_cons_zero, List.getElem_cons_succ]
    refine wpAnyH_ready (rs := [13]) (by kernel_rfl) (by simp) ?_
    refine AllReadyH.cons rfl (fun K hK => ?_) AllReadyH.nil
    rw [if_pos (by rfl)]
    refine wp_call_func #[.tmp 41] #[37] rfl #[.slice (some ⟨N + 1, 24, none⟩) 8 8] (by simp [Act.eval]) (enters_of Tryz.func114 (by kernel_rfl) rfl) (HNM.out _ 24 8 8 OD3.out (by omega) (by omega) (by omega)) (fun e W4 he4 => ?_)
    obtain ⟨rfl, rfl⟩ := he4
    refine ⟨_, rfl, ?_⟩
    refine hK.out _ _ hHeld (fun hHeld => ?_)
    clear hK K
    simp only [Act.put, List.setIfInBounds_toArray, List.set_cons_zero, List.set_cons_succ, List.getElem_toArray, List.getElem_cons_zero, List.getElem_cons_succ]
    refine wpAnyH_take (i := 16) (v := .bool (((part zs 24 8 : Nat) : Int) == ((part zs 0 8 : Nat) : Int))) rfl (by kernel_rfl) (by kernel_rfl) (by kernel_rfl) (fun _ _ _ h => h) (Or.inl ⟨by rfl, fun wx hSw => by go_simp⟩) hHeld ?_
    simp only [Act.put, List.setIfInBounds_toArray, List.set_cons_zero, List.set_cons_succ, List.getElem_toArray, List.getElem_cons_zero, List.getElem_cons_succ]
    refine wpAnyH_take (i := 17) (v := .bool (((part zs 24 8 : Nat) : Int) == ((part zs 0 8 : Nat) : Int))) rfl (by kernel_rfl) (by kernel_rfl) (by kernel_rfl) (fun _ _ _ h => h) (Or.inl ⟨by rfl, fun wx hSw => by go_simp⟩) hHeld ?_
    simp only [Act.put, List.setIfInBounds_toArray, List.set_cons_zero, List.set_cons_succ, List.getElem_toArray, List.getElem_cons_zero, List.getElem_cons_succ]
    refine wpAnyH_ready (rs := [18]) (by kernel_rfl) (by simp) ?_
    refine AllReadyH.cons rfl (fun K hK => ?_) AllReadyH.nil
    rw [if_pos (by rfl)]
    refine wp_unit rfl (HST.out) ?_
    refine hK.out _ _ HY3.out (fun hHeld => ?_)
    clear hK K
    simp only [Act.put, List.setIfInBounds_toArray, List.set_cons_zero, List.set_cons_succ, List.getElem_toArray, List.getElem_cons_zero, List.getElem_cons_succ]
    refine wpAnyH_take (i := 19) (v := .bool (((part zs 24 8 : Nat) : Int) == ((part zs 0 8 : Nat) : Int))) rfl (by kernel_rfl) (by kernel_rfl) (by kernel_rfl) (fun _ _ _ h => h) (Or.inl ⟨by rfl, fun wx hSw => by go_simp⟩) hHeld ?_
    simp only [Act.put, List.setIfInBounds_toArray, List.set_cons_zero, List.set_cons_succ, List.getElem_toArray, List.getElem_cons_zero, List.getElem_cons_succ]
    refine wpAnyH_done (by kernel_rfl) ?_ _
    refine NoPanic.normal ?_
    go_wp2
    have HOK : Hid (rtOk zs = (((part zs 24 8 : Nat) : Int) == ((part zs 0 8 : Nat) : Int))) := by
      show rtOk zs = _
      unfold rtOk
      rw [show (part zs 0 8 != 0) = true by simpa using he, show (part zs 16 8 == 0) = true by simpa using hz, Bool.true_and, Bool.true_and, Bool.eq_iff_iff]; simp; omega
    refine bodyPost_ret (results_root rfl _ _ ⟨N, 0, none⟩ HY3.out rfl) rfl ?_
    rw [HOK.out]
    exact ⟨rfl, HO3.out⟩
  · have g1 : (((part zs 0 8 : Nat) : Int) != 0) = true := by simpa using he
    have g2 : (((part zs 16 8 : Nat) : Int) == 0) = false := by simpa using hz
    refine wp_region_noPanic ?_
    refine wp_region_held_drew (S := fun w' => w'.cell? ⟨N, 0, none⟩ = some (.int .u64 ((part zs 0 8 : Nat) : Int)) ∧ w'.cell? ⟨N, 1, none⟩ = some (.int .u32 ((part zs 8 4 : Nat) : Int)) ∧ w'.cell? ⟨N, 2, none⟩ = some (.int .u32 ((part zs 12 4 : Nat) : Int))) (by kernel_rfl) ?_ (fun hHeld => ?_)
    · exact ⟨by simpa using y0, by simpa using y1, by simpa using y2⟩
    refine wpAnyH_take (i := 0) (v := .agg #[.int .u64 ((part zs 0 8 : Nat) : Int), .int .u32 ((part zs 8 4 : Nat) : Int), .int .u32 ((part zs 12 4 : Nat) : Int)]) rfl (by kernel_rfl) (by kernel_rfl) (by kernel_rfl) (fun _ _ _ h => h) (Or.inl ⟨by rfl, fun wx hSw => by go_simp⟩) hHeld ?_
    simp only [Act.put, List.setIfInBounds_toArray, List.set_cons_zero, List.set_cons_succ, List.getElem_toArray, List.getElem_cons_zero, List.getElem_cons_succ]
    refine wpAnyH_take (i := 1) (v := .pointer (some ⟨N, 0, none⟩)) rfl (by kernel_rfl) (by kernel_rfl) (by kernel_rfl) (fun _ _ _ h => h) (Or.inl ⟨by rfl, fun wx hSw => by go_simp⟩) hHeld ?_
    simp only [Act.put, List.setIfInBounds_toArray, List.set_cons_zero, List.set_cons_succ, List.getElem_toArray, List.getElem_cons_zero, List.getElem_cons_succ]
    refine wpAnyH_take (i := 2) (v := .int .u64 ((part zs 0 8 : Nat) : Int)) rfl (by kernel_rfl) (by kernel_rfl) (by kernel_rfl) (fun _ _ _ h => h) (Or.inl ⟨by rfl, fun wx hSw => by go_simp⟩) hHeld ?_
    simp only [Act.put, List.setIfInBounds_toArray, List.set_cons_zero, List.set_cons_succ, List.getElem_toArray, List.getElem_cons_zero, List.getElem_cons_succ]
    refine wpAnyH_take (i := 3) (v := .bool true) rfl (by kernel_rfl) (by kernel_rfl) (by kernel_rfl) (fun _ _ _ h => h) (Or.inl ⟨by rfl, fun wx hSw => by go_simp⟩) hHeld ?_
    simp only [Act.put, List.setIfInBounds_toArray, List.set_cons_zero, List.set_cons_succ, List.getElem_toArray, List.getElem_cons_zero, List.getElem_cons_succ]
    refine wpAnyH_take (i := 4) (v := .bool true) rfl (by kernel_rfl) (by kernel_rfl) (by kernel_rfl) (fun _ _ _ h => h) (Or.inl ⟨by rfl, fun wx hSw => by go_simp⟩) hHeld ?_
    simp only [Act.put, List.setIfInBounds_toArray, List.set_cons_zero, List.set_cons_succ, List.getElem_toArray, List.getElem_cons_zero, List.getElem_cons_succ]
    refine wpAnyH_take (i := 5) (v := .slice (some ⟨N + 1, 0, none⟩) 32 32) rfl (by kernel_rfl) (by kernel_rfl) (by kernel_rfl) (fun _ _ _ h => h) (Or.inl ⟨by rfl, fun wx hSw => by go_simp⟩) hHeld ?_
    simp only [Act.put, List.setIfInBounds_toArray, List.set_cons_zero, List.set_cons_succ, List.getElem_toArray, List.getElem_cons_zero, List.getElem_cons_succ]
    refine wpAnyH_take (i := 6) (v := .slice (some ⟨N + 1, 16, none⟩) 8 16) rfl (by kernel_rfl) (by kernel_rfl) (by kernel_rfl) (fun _ _ _ h => h) (Or.inl ⟨by rfl, fun wx hSw => by go_simp⟩) hHeld ?_
    simp only [Act.put, List.setIfInBounds_toArray, List.set_cons_zero, List.set_cons_succ, List.getElem_toArray, List.getElem_cons_zero, List.getElem_cons_succ]
    refine wpAnyH_ready (rs := [7]) (by kernel_rfl) (by simp) ?_
    refine AllReadyH.cons rfl (fun K hK => ?_) AllReadyH.nil
    rw [if_pos (by rfl)]
    refine wp_call_func #[.tmp 35] #[37] rfl #[.slice (some ⟨N + 1, 16, none⟩) 8 16] (by simp [Act.eval]) (enters_of Tryz.func114 (by kernel_rfl) rfl) (HNM.out _ 16 8 16 OD3.out (by omega) (by omega) (by omega)) (fun e W4 he4 => ?_)
    obtain ⟨rfl, rfl⟩ := he4
    refine ⟨_, rfl, ?_⟩
    refine hK.out _ _ hHeld (fun hHeld => ?_)
    clear hK K
    simp only [Act.put, List.setIfInBounds_toArray, List.set_cons_zero, List.set_cons_succ, List.getElem_toArray, List.getElem_cons_zero, List.getElem_cons_succ]
    refine wpAnyH_take (i := 8) (v := .bool false) rfl (by kernel_rfl) (by kernel_rfl) (by kernel_rfl) (fun _ _ _ h => h) (Or.inl ⟨by rfl, fun wx hSw => by go_simp⟩) hHeld ?_
    simp only [Act.put, List.setIfInBounds_toArray, List.set_cons_zero, List.set_cons_succ, List.getElem_toArray, List.getElem_cons_zero, List.getElem_cons_succ]
    refine wpAnyH_take (i := 9) (v := .bool false) rfl (by kernel_rfl) (by kernel_rfl) (by kernel_rfl) (fun _ _ _ h => h) (Or.inl ⟨by rfl, fun wx hSw => by go_simp⟩) hHeld ?_
    simp only [Act.put, List.setIfInBounds_toArray, List.set_cons_zero, List.set_cons_succ, List.getElem_toArray, List.getElem_cons_zero, List.getElem_cons_succ]
    refine wpAnyH_take (i := 10) (v := .bool false) rfl (by kernel_rfl) (by kernel_rfl) (by kernel_rfl) (fun _ _ _ h => h) (Or.inl ⟨by rfl, fun wx hSw => by go_simp⟩) hHeld ?_
    simp only [Act.put, List.setIfInBounds_toArray, List.set_cons_zero, List.set_cons_succ, List.getElem_toArray, List.getElem_cons_zero, List.getElem_cons_succ]
    refine wpAnyH_take (i := 11) (v := undef) rfl (by kernel_rfl) (by kernel_rfl) (by kernel_rfl) (fun _ _ _ h => h) (Or.inr ⟨by rfl, rfl⟩) hHeld ?_
    simp only [Act.put, List.setIfInBounds_toArray, List.set_cons_zero, List.set_cons_succ, List.getElem_toArray, List.getElem_cons_zero, List.getElem_cons_succ]
    refine wpAnyH_take (i := 12) (v := undef) rfl (by kernel_rfl) (by kernel_rfl) (by kernel_rfl) (fun _ _ _ h => h) (Or.inr ⟨by rfl, rfl⟩) hHeld ?_
    simp only [Act.put, List.setIfInBounds_toArray, List.set_cons_zero, List.set_cons_succ, List.getElem_toArray, List.getElem_cons_zero, List.getElem_cons_succ]
    refine wpAnyH_take (i := 13) (v := undef) rfl (by kernel_rfl) (by kernel_rfl) (by kernel_rfl) (fun _ _ _ h => h) (Or.inr ⟨by rfl, rfl⟩) hHeld ?_
    simp only [Act.put, List.setIfInBounds_toArray, List.set_cons_zero, List.set_cons_succ, List.getElem_toArray, List.getElem_cons_zero, List.getElem_cons_succ]
    refine wpAnyH_take (i := 14) (v := undef) rfl (by kernel_rfl) (by kernel_rfl) (by kernel_rfl) (fun _ _ _ h => h) (Or.inr ⟨by rfl, rfl⟩) hHeld ?_
    simp only [Act.put, List.setIfInBounds_toArray, List.set_cons_zero, List.set_cons_succ, List.getElem_toArray, List.getElem_cons_zero, List.getElem_cons_succ]
    refine wpAnyH_take (i := 15) (v := undef) rfl (by kernel_rfl) (by kernel_rfl) (by kernel_rfl) (fun _ _ _ h => h) (Or.inr ⟨by rfl, rfl⟩) hHeld ?_
    simp only [Act.put, List.setIfInBounds_toArray, List.set_cons_zero, List.set_cons_succ, List.getElem_toArray, List.getElem_cons_zero, List.getElem_cons_succ]
    refine wpAnyH_take (i := 16) (v := undef) rfl (by kernel_rfl) (by kernel_rfl) (by kernel_rfl) (fun _ _ _ h => h) (Or.inr ⟨by rfl, rfl⟩) hHeld ?_
    simp only [Act.put, List.setIfInBounds_toArray, List.set_cons_zero, List.set_cons_succ, List.getElem_toArray, List.getElem_cons_zero, List.getElem_cons_succ]
    refine wpAnyH_take (i := 17) (v := .bool false) rfl (by kernel_rfl) (by kernel_rfl) (by kernel_rfl) (fun _ _ _ h => h) (Or.inl ⟨by rfl, fun wx hSw => by go_simp⟩) hHeld ?_
    simp only [Act.put, List.setIfInBounds_toArray, List.set_cons_zero, List.set_cons_succ, List.getElem_toArray, List.getElem_cons_zero, List.getElem_cons_succ]
    refine wpAnyH_ready (rs := [18]) (by kernel_rfl) (by simp) ?_
    refine AllReadyH.cons rfl (fun K hK => ?_) AllReadyH.nil
    rw [if_pos (by rfl)]
    refine wp_unit rfl (HST.out) ?_
    refine hK.out _ _ HY3.out (fun hHeld => ?_)
    clear hK K
    simp only [Act.put, List.setIfInBounds_toArray, List.set_cons_zero, List.set_cons_succ, List.getElem_toArray, List.getElem_cons_zero, List.getElem_cons_succ]
    refine wpAnyH_take (i := 19) (v := .bool false) rfl (by kernel_rfl) (by kernel_rfl) (by kernel_rfl) (fun _ _ _ h => h) (Or.inl ⟨by rfl, fun wx hSw => by go_simp⟩) hHeld ?_
    simp only [Act.put, List.setIfInBounds_toArray, List.set_cons_zero, List.set_cons_succ, List.getElem_toArray, List.getElem_cons_zero, List.getElem_cons_succ]
    refine wpAnyH_done (by kernel_rfl) ?_ _
    refine NoPanic.normal ?_
    go_wp2
    have HOK : Hid (rtOk zs = false) := by
      show rtOk zs = _
      unfold rtOk
      simp [hz]
    refine bodyPost_ret (results_root rfl _ _ ⟨N, 0, none⟩ HY3.out rfl) rfl ?_
    rw [HOK.out]
    exact ⟨rfl, HO3.out⟩
end Go.Proofs.YtpoakkdkibameaaGreat
namespace Go.Proofs.YtpoakkdkibameaaGreat
open Go.RowKit
set_option linter.unusedSimpArgs false
set_option linter.unusedVariables false

/-- A loader at L of the disk at p, with the flags f of n pages at G. -/
structure LdAt (w : World) (L p G n : Nat) (f : Nat → Bool) : Prop where
  c0 : w.cell? ⟨L, 0, none⟩ = some (.pointer (some ⟨p, 0, none⟩))
  c1 : w.cell? ⟨L, 1, none⟩ = some (.slice (some ⟨G, 0, none⟩) n n)
  fl : FBlk w G n f
  ne : L ≠ G
theorem LdAt.frame {w w' : World} {L p G n : Nat} {f : Nat → Bool} {bs : Nat → Prop} (h : LdAt w L p G n f) (ho : Only bs w w') (hL : ¬ bs L) (hG : ¬ bs G) : LdAt w' L p G n f :=
  ⟨ho.cell h.c0 hL, ho.cell h.c1 hL, h.fl.frame ho hG, h.ne⟩
/-- What read leaves of the flags, and the data that it finds. -/
def ldD (d : DS) (q id : Nat) : Option (List Nat) := match unp (pgN d q 4) with
  | none => none
  | some (i, D) => if i = id then some D else none
def ldR (d : DS) (f : Nat → Bool) (q id : Nat) : (Nat → Bool) × Option (List Nat) :=
  if d.n / 4 ≤ q ∨ f q = true then (f, none) else (fun j => f j || j == q, ldD d q id)
def LdIs (w : World) (L p G n : Nat) (r : (Nat → Bool) × Option (List Nat)) (e : Ending) (w' : World) : Prop :=
  LdAt w' L p G n r.1 ∧ Only (fun i => i = G) w w' ∧ match r.2 with
  | none => e = .returned (.tuple #[.slice none 0 0, .bool false])
  | some D => ∃ u, e = .returned (.tuple #[u, .bool true]) ∧ Fresh w' w.heap.size u D

set_option maxRecDepth 100000 in
set_option maxHeartbeats 2000000 in
theorem lread_any (L p G S B q id : Nat) (pv : Value) (d : DS) (f : Nat → Bool) (w : World) (h : DiskAt w B p S pv d) (hl : d.life ≠ 0) (hb : ByteD d) (hL : LdAt w L p G (d.n / 4) f) (hdG : ¬ diskB p S pv G) (hq : q < 18446744073709551616) (hid : id < 4294967296) :
    Calls Tryz.prog 115 #[.pointer (some ⟨L, 0, none⟩), .int .u64 q, .int .u32 id] w fun e w' => LdIs w L p G (d.n / 4) (ldR d f q id) e w' := by
  have n2 := h.n2
  obtain ⟨n, hn⟩ : ∃ n, n = d.n / 4 := ⟨_, rfl⟩
  have HLD : Hid (LdAt w L p G (d.n / 4) f) := hL
  rw [← hn] at hL
  have c0 := hL.c0
  have c1 := hL.c1
  have wn : IntKind.u64.wrap (n : Int) = (n : Int) := by rw [IntKind.wrap_u64]; omega
  have HR : Hid (ldR d f q id = if n ≤ q ∨ f q = true then (f, none) else (fun j => f j || j == q, ldD d q id)) := (by rw [hn]; rfl : _ = _)
  by_cases hle : n ≤ q
  · have q1 : (n : Int) ≤ (q : Int) := by omega
    have HN : Hid (n = d.n / 4) := hn
    have HQ : Hid (n ≤ q) := hle
    clear hle hL h hn hb hl
    go_enter Tryz.func115, Tryz.ntmps115
    go_wp2
    go_ret2
    refine LdIs.eq_1 .. ▸ ?_
    rw [HR.out, if_pos (.inl HQ.out)]
    exact ⟨HLD.out, Only.refl _ _, rfl⟩
  have q1 : ¬ (n : Int) ≤ (q : Int) := by omega
  have q2 : (q : Int) < (n : Int) := by omega
  have q0 : (0 : Int) ≤ (q : Int) := by omega
  have cq := hL.fl.cell q (by omega)
  have fq := hL.fl.frozen q
  by_cases hf : f q = true
  · rw [hf] at cq
    have HF : Hid (f q = true) := hf
    have HN : Hid (n = d.n / 4) := hn
    clear hle hL h hn hb hl hf
    go_enter Tryz.func115, Tryz.ntmps115
    go_wp2
    go_ret2
    refine LdIs.eq_1 .. ▸ ?_
    rw [HR.out, if_pos (.inr HF.out)]
    exact ⟨HLD.out, Only.refl _ _, rfl⟩
  have hf0 : f q = false := by simpa using hf
  rw [hf0] at cq
  have wq : IntKind.i64.wrap (q : Int) = (q : Int) := by rw [IntKind.wrap_i64]; omega
  have hR2 : ldR d f q id = (fun j => f j || j == q, ldD d q id) := by rw [HR.out, if_neg (by rintro (e | e); exact hle e; exact hf e)]
  have HR2 : Hid (ldR d f q id = (fun j => f j || j == q, ldD d q id)) := hR2
  obtain ⟨w1, hw1⟩ : ∃ w1, w1 = w.setCell ⟨G, q, none⟩ (.bool true) := ⟨_, rfl⟩
  have HW1 : Hid (w1 = w.setCell ⟨G, q, none⟩ (.bool true)) := hw1
  have o1 : Only (fun i => i = G) w w1 := by rw [hw1]; exact (Only.refl (fun i => i = G) w).setCell _ _ (fun _ => rfl)
  have HO1 : Hid (Only (fun i => i = G) w w1) := o1
  have hd1 := h.frame o1 (fun k hk e => hdG (e ▸ hk))
  have hl1 : LdAt w1 L p G (d.n / 4) (fun j => f j || j == q) := by
    refine ⟨o1.cell hL.c0 hL.ne, hn ▸ o1.cell hL.c1 hL.ne, ?_, hL.ne⟩
    rw [hw1, ← hn]
    exact hL.fl.set q
  have HL1 : Hid (LdAt w1 L p G (d.n / 4) (fun j => f j || j == q)) := hl1
  have d0 : w1.cell? ⟨L, 0, none⟩ = some (.pointer (some ⟨p, 0, none⟩)) := hl1.c0
  have HP : Hid (Calls Tryz.prog 133 #[.pointer (some ⟨p, 0, none⟩), .int .i64 q] w1 fun e w' => UnpIs (unp (pgN d q 4)) w1 e w') := pread_in p S B q pv d w1 hd1 (by omega) hl hb
  have HSZ : Hid (w1.heap.size = w.heap.size) := (by rw [hw1]; simp [World.setCell] : _ = _)
  have ne1 : ¬ L = G := hL.ne
  have ne2 : ¬ G = L := fun e => hL.ne e.symm
  clear h hl hb hL hn HR hle hf hf0 hR2 hd1 hl1 hw1 o1 HLD
  go_enter Tryz.func115, Tryz.ntmps115
  go_wp2_with fail
  rw [← HW1.out]
  refine (show Calls Tryz.prog 133 _ _ _ from HP.out).mono ?_
  intro e w2 hU
  clear HP
  cases hr : unp (pgN d q 4) with
  | none =>
    rw [hr] at hU
    obtain ⟨rfl, ho2⟩ := hU
    have HD : Hid (ldD d q id = none) := (by unfold ldD; rw [hr] : _ = _)
    have HE : Hid (LdAt w2 L p G (d.n / 4) (fun j => f j || j == q) ∧ Only (fun i => i = G) w w2) := ⟨HL1.out.frame ho2 (fun e => e) (fun e => e), HO1.out.trans ho2 (fun _ _ e => e.elim)⟩
    clear hr ho2
    go_wp2
    go_ret2
    refine LdIs.eq_1 .. ▸ ?_
    rw [HR2.out, HD.out]
    exact ⟨HE.out.1, HE.out.2, rfl⟩
  | some y =>
    obtain ⟨i, D⟩ := y
    rw [hr] at hU
    obtain ⟨u, rfl, hf2, ho2⟩ := hU
    have HE : Hid (LdAt w2 L p G (d.n / 4) (fun j => f j || j == q) ∧ Only (fun i => i = G) w w2) := ⟨HL1.out.frame ho2 (fun e => e) (fun e => e), HO1.out.trans ho2 (fun _ _ e => e.elim)⟩
    rw [HSZ.out] at hf2
    have HF2 : Hid (Fresh w2 w.heap.size u D) := hf2
    by_cases hi : i = id
    · have i1 : ((i : Int) != (id : Int)) = false := by simp [hi]
      have HD : Hid (ldD d q id = some D) := (by unfold ldD; rw [hr]; exact if_pos hi : _ = _)
      clear hr ho2 hf2 hi
      go_wp2
      go_ret2
      refine LdIs.eq_1 .. ▸ ?_
      rw [HR2.out, HD.out]
      exact ⟨HE.out.1, HE.out.2, _, rfl, HF2.out⟩
    · have i1 : ((i : Int) != (id : Int)) = true := by simp; omega
      have HD : Hid (ldD d q id = none) := (by unfold ldD; rw [hr]; exact if_neg hi : _ = _)
      clear hr ho2 hf2 hi
      go_wp2
      go_ret2
      refine LdIs.eq_1 .. ▸ ?_
      rw [HR2.out, HD.out]
      exact ⟨HE.out.1, HE.out.2, rfl⟩
end Go.Proofs.YtpoakkdkibameaaGreat
namespace Go.Proofs.YtpoakkdkibameaaGreat
open Go.RowKit
set_option linter.unusedSimpArgs false
set_option linter.unusedVariables false

/-- How many of the first n pages were not named yet. -/
def cnt (f : Nat → Bool) : Nat → Nat
  | 0 => 0
  | n + 1 => cnt f n + if f n then 0 else 1
theorem cnt_le (f : Nat → Bool) : ∀ n, cnt f n ≤ n
  | 0 => Nat.le_refl _
  | n + 1 => by have := cnt_le f n; simp only [cnt]; split <;> omega
theorem cnt_out (f : Nat → Bool) (q : Nat) : ∀ n, n ≤ q → cnt (fun j => f j || j == q) n = cnt f n
  | 0, _ => rfl
  | n + 1, h => by
    have := cnt_out f q n (by omega)
    have e : (n == q) = false := by simp; omega
    simp only [cnt, this, e, Bool.or_false]
theorem cnt_set (f : Nat → Bool) (q : Nat) (hf : f q = false) : ∀ n, q < n → cnt (fun j => f j || j == q) n + 1 = cnt f n
  | 0, h => by omega
  | n + 1, h => by
    by_cases e : n = q
    · subst e
      simp only [cnt, cnt_out f n n (Nat.le_refl _), hf]
      simp
    · have := cnt_set f q hf n (by omega)
      have e' : (n == q) = false := by simpa using e
      simp only [cnt, e', Bool.or_false]
      omega
theorem unp_len {b : List Nat} {i : Nat} {D : List Nat} (h : unp b = some (i, D)) : D.length ≤ 116 := by
  unfold unp at h
  split at h
  · split at h
    · cases h
    · split at h
      · simp only [Option.some.injEq, Prod.mk.injEq] at h
        rw [← h.2, List.length_take]
        omega
      · cases h
  · cases h
theorem ldR_some {d : DS} {f : Nat → Bool} {q id : Nat} {D : List Nat} (h : (ldR d f q id).2 = some D) : q < d.n / 4 ∧ f q = false ∧ (ldR d f q id).1 = (fun j => f j || j == q) ∧ D.length ≤ 116 := by
  unfold ldR at h ⊢
  by_cases c : d.n / 4 ≤ q ∨ f q = true
  · rw [if_pos c] at h; cases h
  · rw [if_neg c] at h ⊢
    have hf : f q = false := by
      cases hf : f q with
      | true => exact (c (.inr hf)).elim
      | false => rfl
    refine ⟨by omega, hf, rfl, ?_⟩
    have h2 : ldD d q id = some D := h
    unfold ldD at h2
    cases hu : unp (pgN d q 4) with
    | none => rw [hu] at h2; cases h2
    | some y =>
      obtain ⟨i, D'⟩ := y
      rw [hu] at h2
      simp only at h2
      split at h2
      · cases h2; exact unp_len hu
      · cases h2

/-- What tables answers: the flags, the pages, the table. -/
def tbR (d : DS) : Nat → (Nat → Bool) → Nat → List Nat → List Nat → (Nat → Bool) × Option (List Nat × List Nat)
  | 0, f, _, _, _ => (f, none)
  | k + 1, f, nx, at_, tab => if nx = 0 then (f, some (at_, tab)) else
    match (ldR d f nx 2).2 with
    | none => ((ldR d f nx 2).1, none)
    | some D => if D.length < 4 then ((ldR d f nx 2).1, none) else tbR d k (ldR d f nx 2).1 (part D 0 4) (at_ ++ [nx]) (tab ++ D.drop 4)
theorem tbR_end (d : DS) (k : Nat) (f : Nat → Bool) (at_ tab : List Nat) : tbR d (k + 1) f 0 at_ tab = (f, some (at_, tab)) := by unfold tbR; rw [if_pos rfl]
theorem tbR_none {d : DS} {f : Nat → Bool} {nx : Nat} (h0 : nx ≠ 0) (h : (ldR d f nx 2).2 = none) (k : Nat) (at_ tab : List Nat) : tbR d (k + 1) f nx at_ tab = ((ldR d f nx 2).1, none) := by
  rw [tbR, if_neg h0, h]
theorem tbR_short {d : DS} {f : Nat → Bool} {nx : Nat} {D : List Nat} (h0 : nx ≠ 0) (h : (ldR d f nx 2).2 = some D) (hD : D.length < 4) (k : Nat) (at_ tab : List Nat) : tbR d (k + 1) f nx at_ tab = ((ldR d f nx 2).1, none) := by
  rw [tbR, if_neg h0, h]
  exact if_pos hD
theorem tbR_go {d : DS} {f : Nat → Bool} {nx : Nat} {D : List Nat} (h0 : nx ≠ 0) (h : (ldR d f nx 2).2 = some D) (hD : ¬ D.length < 4) (k : Nat) (at_ tab : List Nat) : tbR d (k + 1) f nx at_ tab = tbR d k (ldR d f nx 2).1 (part D 0 4) (at_ ++ [nx]) (tab ++ D.drop 4) := by
  rw [tbR, if_neg h0, h]
  exact if_neg hD
def TbIs (w : World) (L p G n : Nat) (r : (Nat → Bool) × Option (List Nat × List Nat)) (e : Ending) (w' : World) : Prop :=
  LdAt w' L p G n r.1 ∧ Only (fun i => i = G) w w' ∧ match r.2 with
  | none => e = .returned (.tuple #[.slice none 0 0, .slice none 0 0, .bool false])
  | some x => ∃ va vt, e = .returned (.tuple #[va, vt, .bool true]) ∧ FreshI w' w.heap.size va x.1 ∧ Fresh w' w.heap.size vt x.2 ∧ ∀ b, va.ownBlock = some b → vt.ownBlock ≠ some b

/-- append(v, q) of a number: what changes. -/
theorem app_int2 {w : World} {B : Nat} {v : Value} {zs : List Nat} (h : FreshI w B v zs) (hB : B ≤ w.heap.size) (q : Nat) (hl : zs.length + 1 ≤ 1048576) :
    ∃ a cap w', (∀ ty, (Builtin.append_ #[82, 82] ty #[v, .slice (some ⟨w.heap.size, 0, none⟩) 1 1]).run Tryz.prog (w.alloc (.cells #[.int .i64 (q : Int)] 3)) = .ok (.slice a (zs.length + 1) cap) w') ∧ FreshI w' B (.slice a (zs.length + 1) cap) (zs ++ [q]) ∧ Only (fun i => v.ownBlock = some i) w w' ∧ ∀ b, (Value.slice a (zs.length + 1) cap).ownBlock = some b → v.ownBlock = some b ∨ w.heap.size ≤ b := by
  obtain ⟨i0, hi0, hz0, hz1, hz2⟩ := info_parts info3
  have o1 : Only (fun _ => False) w (w.alloc (.cells #[.int .i64 (q : Int)] 3)) := (Only.refl _ w).alloc _
  have h2 := h.frame o1
  have key := fun ty => run_append_own_at (P := Tryz.prog) (w.alloc (.cells #[.int .i64 (q : Int)] 3)) B 82 ty 3 i0 _ 1 8 Tryz.underlying82 hi0 hz0 hz1 hz2 rfl (by omega) v zs.length (IL zs) h2.1 ⟨w.heap.size, 0, none⟩ 1 1 [.int .i64 (q : Int)] rfl (World.news_of_block (heap_alloc_new w _)) (by simp [Value.oneCell']) (by unfold maxLen; omega) (by omega) (by have := o1.size; omega)
  obtain ⟨v', w', hr, own', hg, _, hb⟩ := key 0
  obtain ⟨a, cap, rfl⟩ := ownsRow_slice own'
  refine ⟨a, cap, w', fun ty => by rw [← hr]; rfl, ⟨?_, by simpa using hl⟩, (o1.mono (fun _ _ e => e.elim)).trans ((Only.refl (fun i => v.ownBlock = some i) _).grown hg (fun k e hk => e)) (fun _ _ e => e), fun b e => ?_⟩
  · have e : IL (zs ++ [q]) = IL zs ++ [.int .i64 (q : Int)] := by simp [IL]
    rw [e, List.length_append]
    exact own'
  · rcases hb with hb | hb
    · exact .inl (hb ▸ e)
    · rw [hb] at e
      cases e
      exact .inr (by have := o1.size; omega)
/-- append(v, u...): what changes. -/
theorem app_fresh2 {w : World} {B : Nat} {v u : Value} {zs ys : List Nat} (h : Fresh w B v zs) (hu : BytesAt w u ys) (hB : B ≤ w.heap.size) (hl : zs.length + ys.length ≤ 140737488355328) :
    ∃ a cap w', (∀ ty, (Builtin.append_ #[37, 37] ty #[v, u]).run Tryz.prog w = .ok (.slice a (zs.length + ys.length) cap) w') ∧ Fresh w' B (.slice a (zs.length + ys.length) cap) (zs ++ ys) ∧ Only (fun i => v.ownBlock = some i) w w' ∧ ∀ b, (Value.slice a (zs.length + ys.length) cap).ownBlock = some b → v.ownBlock = some b ∨ w.heap.size ≤ b := by
  obtain ⟨i0, hi0, hz0, hz1, hz2⟩ := info_parts info5
  rcases hu.1 with ⟨rfl, h0⟩ | ⟨ad, c, rfl, hkc, hc⟩
  · obtain rfl : ys = [] := List.eq_nil_of_length_eq_zero h0
    obtain ⟨a, cap, rfl⟩ := h.form
    refine ⟨a, cap, w, fun ty => run_append_owned_none _ B 37 ty 5 i0 1 Tryz.underlying37 hi0 _ zs.length (BL zs) h.1, by simpa using h, Only.refl _ _, fun b e => .inl e⟩
  · have hnews : ∀ j x, (BL ys)[j]? = some x → w.cell? (ad.add j) = some x := fun j x hx => by
      have hj : j < ys.length := by have := (List.getElem?_eq_some_iff.1 hx).1; rwa [BL_length] at this
      rw [hc j (by omega)]
      rw [BL_get _ _ hj] at hx
      rw [← hx]
      simp [List.getD, hj]
    have key := fun ty => run_append_own_at (P := Tryz.prog) w B 37 ty 5 i0 _ 1 1 Tryz.underlying37 hi0 hz0 hz1 hz2 rfl (by omega) v zs.length (BL zs) h.1 ad ys.length c (BL ys) (by rw [BL_length]; omega) hnews (BL_one ys) (by unfold maxLen; omega) (by omega) hB
    obtain ⟨v', w', hr, own', hg, _, hb⟩ := key 0
    obtain ⟨a, cap, rfl⟩ := ownsRow_slice own'
    refine ⟨a, cap, w', fun ty => by rw [← hr]; rfl, Fresh.more own' hl h.2.2 hu.2.2, (Only.refl (fun i => v.ownBlock = some i) w).grown hg (fun k e hk => e), fun b e => ?_⟩
    rcases hb with hb | hb
    · exact .inl (hb ▸ e)
    · rw [hb] at e
      cases e
      exact .inr (Nat.le_refl _)
/-- v[4:] -/
theorem slice_four {w : World} (g o k c : Nat) {zs : List Nat} (h : BytesAt w (.slice (some ⟨g, o, none⟩) k c) zs) (hz : zs.length = k) (hk : 4 ≤ k) (hc : k ≤ c) : ∃ a2 c2, (∀ w, (Instr.slice 37 (.slice (some ⟨g, o, none⟩) k c) (some (.int .i64 4)) none none).run Tryz.prog w = .ok (.slice a2 (k - 4) c2) w) ∧ BytesAt w (.slice a2 (k - 4) c2) (zs.drop 4) ∧ ∀ b, (Value.slice a2 (k - 4) c2).ownBlock = some b → b = g := by
  have k0 : (4 : Int) ≤ (k : Int) := by omega
  have kc : (k : Int) ≤ (c : Int) := by omega
  have e1 : ((k : Int) - 4).toNat = k - 4 := by omega
  have e2 : ((c : Int) - 4).toNat = c - 4 := by omega
  by_cases e : c = 4
  · have ek : k = 4 := by omega
    subst e ek
    refine ⟨some ⟨g, o, none⟩, 0, fun w => by go_simp, ?_, fun b hb => by simp [Value.ownBlock] at hb; omega⟩
    rw [List.drop_of_length_le (by omega)]
    exact BytesAt.none _ _ (fun e => by cases e)
  · have ec : ¬ c - 4 = 0 := by omega
    refine ⟨some ⟨g, o + 4, none⟩, c - 4, fun w => by go_simp, ?_, fun b hb => by simp [Value.ownBlock] at hb; omega⟩
    have := h.cut 4 (k - 4) (c - 4) (by omega) (by omega)
    rwa [List.take_of_length_le (by rw [List.length_drop]; omega)] at this
def lenOf : Value → Nat
  | .slice _ n _ => n
  | _ => 0
end Go.Proofs.YtpoakkdkibameaaGreat
