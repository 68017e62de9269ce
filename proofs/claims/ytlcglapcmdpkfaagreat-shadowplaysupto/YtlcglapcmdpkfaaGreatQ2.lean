import Derived.Test.YtlcglapcmdpkfaaGreatTk
import Derived.Test.YtlcglapcmdpkfaaGreatQ1
import Derived.Test.YtlcglapcmdpkfaaGreatE4
import Derived.Test.YtlcglapcmdpkfaaGreatM3
import Derived.Test.YtlcglapcmdpkfaaGreatW0
namespace Go.Proofs.YtlcglapcmdpkfaaGreat
open Go.RowKit
set_option linter.unusedSimpArgs false
set_option linter.unusedVariables false
def part (zs : List Nat) (k m : Nat) : Nat := nof ((zs.drop k).take m)
def rtE (zs : List Nat) : Nat := part zs 0 8
def rtF (zs : List Nat) : Nat := part zs 8 4
def rtC (zs : List Nat) : Nat := part zs 12 4
def rtOk (zs : List Nat) : Bool := part zs 0 8 != 0 && part zs 16 8 == 0 && part zs 24 8 == part zs 0 8
theorem part_lt {zs : List Nat} (h : ∀ z ∈ zs, z < 256) (p m : Nat) : part zs p m < 2 ^ (8 * m) :=
 Nat.lt_of_lt_of_le (nof_lt fun z hz => h z (List.mem_of_mem_drop (List.mem_of_mem_take hz))) (Nat.pow_le_pow_right (by omega) (by rw [List.length_take]; omega))
theorem results_root {fn : Func} {t u : Tmp} (h : fn.results = #[.cell u 74, .tmp t]) (tmps : Array Value) (w : World) (a : Addr) {x y z : Value} (hc : w.cell? ⟨a.block, a.off, none⟩ = some x ∧ w.cell? ⟨a.block, a.off + 1, none⟩ = some y ∧ w.cell? ⟨a.block, a.off + 2, none⟩ = some z) (ha : tmps.getD u undef = .pointer (some ⟨a.block, a.off, none⟩)) :
  (results fn tmps).run Tryz.prog w = .ok (.tuple #[.agg #[x, y, z], tmps.getD t undef]) w := by
 obtain ⟨h0, h1, h2⟩ := hc
 have ha' : tmps[u]?.getD undef = .pointer (some ⟨a.block, a.off, none⟩) := by simpa using ha
 simp [results, h, ha', asAddr, go_sem, loadVar, isAgg, Tryz.underlying74, h0, h1, h2]
set_option maxRecDepth 100000 in
set_option maxHeartbeats 4000000 in
theorem rroot_any (p S q B : Nat) (pv : Value) (d : DS) (w : World) (h : DiskAt w B p S pv d) (hl : d.life ≠ 0) (hq : q < d.n) (hb : ByteD d) :
  Calls Tryz.prog 95 #[.pointer (some ⟨p, 0, none⟩), .int .i64 q] w fun e w' => e = .returned (.tuple #[.agg #[.int .u64 (rtE (secN (d.sec q)) : Nat), .int .u32 (rtF (secN (d.sec q)) : Nat), .int .u32 (rtC (secN (d.sec q)) : Nat)], .bool (rtOk (secN (d.sec q)))]) ∧ Only (fun _ => False) w w' := by
 obtain ⟨wa, hwa⟩ : ∃ x, x = w.alloc (.cells #[.int .u64 0, .int .u32 0, .int .u32 0] 74) := ⟨_, rfl⟩
 have oa : Only (fun _ => False) w wa := by rw [hwa]; exact (Only.refl _ w).alloc _
 obtain ⟨N, hN⟩ : ∃ x, x = w.heap.size := ⟨_, rfl⟩
 have sa : wa.heap.size = N + 1 := by rw [hwa, hN]; simp
 have HRD : Hid (Calls Tryz.prog 8 #[.pointer (some ⟨p, 0, none⟩), .int .i64 q] wa fun e w' => e = .returned (.tuple #[.slice (some ⟨wa.heap.size, 0, none⟩) 32 32, .int .i64 0]) ∧ w' = wa.alloc (.cells (secL (d.sec q)).toArray 67)) := read_any p S q B pv d wa (h.frame oa (fun _ _ e => e)) hl hq
 obtain ⟨C, hC⟩ : ∃ C, C = (secL (d.sec q)).toArray := ⟨_, rfl⟩
 rw [← hC] at HRD
 obtain ⟨wb, hwb⟩ : ∃ x, x = wa.alloc (.cells C 67) := ⟨_, rfl⟩
 have ob : Only (fun _ => False) wa wb := by rw [hwb]; exact (Only.refl _ wa).alloc _
 obtain ⟨zs, hzs⟩ : ∃ x, x = secN (d.sec q) := ⟨_, rfl⟩
 have hzl : zs.length = 32 := by rw [hzs, secN_length]
 have hz256 : ∀ z ∈ zs, z < 256 := by rw [hzs]; exact secN_lt (hb.sec q)
 have hby : BytesAt wb (.slice (some ⟨N + 1, 0, none⟩) 32 32) zs := by
  rw [hzs]
  refine sec_bytes ?_ (by omega) (hb.sec q)
  intro j v hv
  rw [hwb, hC, Nat.zero_add, ← sa, cell_of_row _ _ _ _ _ _ (heap_alloc_new wa _)]
  simpa using hv
 have ba : wb.heap[N]? = some (.cells #[.int .u64 0, .int .u32 0, .int .u32 0] 74 (0, 0)) := by
  rw [ob.block N (by omega) (fun e => e), hwa, hN]; exact heap_alloc_new w _
 rw [← hwb, sa] at HRD
 rw [← hzs]
 have HBY : Hid (BytesAt wb (.slice (some ⟨N + 1, 0, none⟩) 32 32) zs) := hby
 have HNM : Hid (∀ w' k m c', Only (fun i => i = N) wb w' → k + m ≤ 32 → m ≤ 8 → m ≤ c' → Calls Tryz.prog 114 #[.slice (some ⟨N + 1, k, none⟩) m c'] w' fun e w2 => e = .returned (.int .u64 (part zs k m : Nat)) ∧ w2 = w') := fun w' k m c' ho hk hm hc' => by
  have h2 : BytesAt w' (.slice (some ⟨N + 1, 0, none⟩) 32 32) zs := hby.keep ho (fun i hi e => by simp [Value.ownBlock] at hi; omega)
  have := h2.cut k m c' (by omega) hc'
  rw [Nat.zero_add] at this
  exact snum_any _ _ w' this (by rw [List.length_take]; omega)
 have HE256 := part_lt hz256 0 8
 have HF256 := part_lt hz256 8 4
 have HC256 := part_lt hz256 12 4
 have hf32 : IntKind.u32.wrap (part zs 8 4 : Int) = (part zs 8 4 : Int) := by rw [IntKind.wrap_u32]; omega
 have hc32 : IntKind.u32.wrap (part zs 12 4 : Int) = (part zs 12 4 : Int) := by rw [IntKind.wrap_u32]; omega
 have OD : Hid (Only (fun i => i = N) wb wb.drew) := (Only.refl _ wb).drew
 have HWA : Hid (wa = w.alloc (.cells #[.int .u64 0, .int .u32 0, .int .u32 0] 74)) := hwa
 have HNN : Hid (N = w.heap.size) := hN
 have HBA : Hid (wb.heap[N]? = some (.cells #[.int .u64 0, .int .u32 0, .int .u32 0] 74 (0, 0))) := ba
 have HOB : Hid (Only (fun _ => False) w wb) := oa.trans ob (fun _ _ e => e)
 have x0 : wb.cell? ⟨N, 0, none⟩ = some (.int .u64 0) := by rw [cell_of_row _ _ _ _ _ _ ba]; rfl
 have x1 : wb.cell? ⟨N, 1, none⟩ = some (.int .u32 0) := by rw [cell_of_row _ _ _ _ _ _ ba]; rfl
 have x2 : wb.cell? ⟨N, 2, none⟩ = some (.int .u32 0) := by rw [cell_of_row _ _ _ _ _ _ ba]; rfl
 have z0 : wb.frozen? ⟨N, 0, none⟩ = false := frozen_of_row _ _ _ _ _ ba
 have z1 : wb.frozen? ⟨N, 1, none⟩ = false := frozen_of_row _ _ _ _ _ ba
 have z2 : wb.frozen? ⟨N, 2, none⟩ = false := frozen_of_row _ _ _ _ _ ba
 clear h hl hq hb hwa oa hN sa hC hwb ob hzs hzl hz256 hby ba HE256 HF256 HC256
 go_enter Tryz.func95, Tryz.ntmps95
 go_wp2_with fail
 rw [← HWA.out, ← HNN.out]
 refine (show Calls Tryz.prog 8 _ _ _ from HRD.out).mono ?_
 rintro e w1 ⟨rfl, rfl⟩
 clear HRD
 go_wp2_with fail
 go_region_held3 (fun _ => True) (trivial) (first
  | (go_at_call 114; refine (HNM.out _ _ _ _ OD.out (by omega) (by omega) (by omega)).mono ?_; rintro e w' ⟨rfl, rfl⟩))
 obtain ⟨w2, hw2⟩ : ∃ x, x = ((w1.setCell ⟨N, 0, none⟩ (.int .u64 (part zs 0 8 : Nat))).setCell ⟨N, 1, none⟩ (.int .u32 (part zs 8 4 : Nat))).setCell ⟨N, 2, none⟩ (.int .u32 (part zs 12 4 : Nat)) := ⟨_, rfl⟩
 have HW2 : Hid (w2 = ((w1.setCell ⟨N, 0, none⟩ (.int .u64 (part zs 0 8 : Nat))).setCell ⟨N, 1, none⟩ (.int .u32 (part zs 8 4 : Nat))).setCell ⟨N, 2, none⟩ (.int .u32 (part zs 12 4 : Nat))) := hw2
 have o2 : Only (fun i => i = N) w1 w2 := by
  rw [hw2]
  exact (((Only.refl (fun i => i = N) w1).setCell ⟨N, 0, none⟩ _ (fun _ => rfl)).setCell ⟨N, 1, none⟩ _ (fun _ => rfl)).setCell ⟨N, 2, none⟩ _ (fun _ => rfl)
 have OD2 : Hid (Only (fun i => i = N) w1 w2.drew) := o2.drew
 have y0 : w2.cell? ⟨N, 0, none⟩ = some (.int .u64 (part zs 0 8 : Nat)) := by rw [hw2]; simp [go_sem, x0, x1, x2]
 have y1 : w2.cell? ⟨N, 1, none⟩ = some (.int .u32 (part zs 8 4 : Nat)) := by rw [hw2]; simp [go_sem, x0, x1, x2]
 have y2 : w2.cell? ⟨N, 2, none⟩ = some (.int .u32 (part zs 12 4 : Nat)) := by rw [hw2]; simp [go_sem, x0, x1, x2]
 have v0 : w2.frozen? ⟨N, 0, none⟩ = false := by rw [hw2]; simp [go_sem, z0]
 have v1 : w2.frozen? ⟨N, 1, none⟩ = false := by rw [hw2]; simp [go_sem, z1]
 have v2 : w2.frozen? ⟨N, 2, none⟩ = false := by rw [hw2]; simp [go_sem, z2]
 clear o2 x0 x1 x2 z0 z1 z2 hw2
 go_wp2_with fail
 rw [← HW2.out]
 have OD3 : Hid (Only (fun i => i = N) w1 w2.drew.drew) := OD2.out.drew
 have HST : Hid ((Instr.storeAt 74 (.pointer (some ⟨N, 0, none⟩)) (.agg #[.int .u64 ((part zs 0 8 : Nat) : Int), .int .u32 ((part zs 8 4 : Nat) : Int), .int .u32 ((part zs 12 4 : Nat) : Int)])).run Tryz.prog w2.drew.drew = .ok () (((w2.drew.drew.setCell ⟨N, 0, none⟩ (.int .u64 ((part zs 0 8 : Nat) : Int))).setCell ⟨N, 1, none⟩ (.int .u32 ((part zs 8 4 : Nat) : Int))).setCell ⟨N, 2, none⟩ (.int .u32 ((part zs 12 4 : Nat) : Int)))) := by
  show _ = _
  go_simp
 have HY3 : Hid ((((w2.drew.drew.setCell ⟨N, 0, none⟩ (.int .u64 ((part zs 0 8 : Nat) : Int))).setCell ⟨N, 1, none⟩ (.int .u32 ((part zs 8 4 : Nat) : Int))).setCell ⟨N, 2, none⟩ (.int .u32 ((part zs 12 4 : Nat) : Int))).cell? ⟨N, 0, none⟩ = some (.int .u64 ((part zs 0 8 : Nat) : Int)) ∧ (((w2.drew.drew.setCell ⟨N, 0, none⟩ (.int .u64 ((part zs 0 8 : Nat) : Int))).setCell ⟨N, 1, none⟩ (.int .u32 ((part zs 8 4 : Nat) : Int))).setCell ⟨N, 2, none⟩ (.int .u32 ((part zs 12 4 : Nat) : Int))).cell? ⟨N, 1, none⟩ = some (.int .u32 ((part zs 8 4 : Nat) : Int)) ∧ (((w2.drew.drew.setCell ⟨N, 0, none⟩ (.int .u64 ((part zs 0 8 : Nat) : Int))).setCell ⟨N, 1, none⟩ (.int .u32 ((part zs 8 4 : Nat) : Int))).setCell ⟨N, 2, none⟩ (.int .u32 ((part zs 12 4 : Nat) : Int))).cell? ⟨N, 2, none⟩ = some (.int .u32 ((part zs 12 4 : Nat) : Int))) := by
  refine ⟨?_, ?_, ?_⟩ <;> simp [go_sem, y0, y1, y2]
 have HO3 : Hid (Only (fun _ => False) w (((w2.drew.drew.setCell ⟨N, 0, none⟩ (.int .u64 ((part zs 0 8 : Nat) : Int))).setCell ⟨N, 1, none⟩ (.int .u32 ((part zs 8 4 : Nat) : Int))).setCell ⟨N, 2, none⟩ (.int .u32 ((part zs 12 4 : Nat) : Int)))) := by
  have := (((OD3.out).setCell ⟨N, 0, none⟩ (.int .u64 ((part zs 0 8 : Nat) : Int)) (fun _ => rfl)).setCell ⟨N, 1, none⟩ (.int .u32 ((part zs 8 4 : Nat) : Int)) (fun _ => rfl)).setCell ⟨N, 2, none⟩ (.int .u32 ((part zs 12 4 : Nat) : Int)) (fun _ => rfl)
  exact HOB.out.trans this (fun i hi e => by have := HNN.out; omega)
 by_cases he : part zs 0 8 = 0
 ·have g1 : (((part zs 0 8 : Nat) : Int) != 0) = false := by rw [he]; rfl
  refine wp_region_noPanic ?_
  refine wp_region_held_drew (S := fun w' => w'.cell? ⟨N, 0, none⟩ = some (.int .u64 ((part zs 0 8 : Nat) : Int)) ∧ w'.cell? ⟨N, 1, none⟩ = some (.int .u32 ((part zs 8 4 : Nat) : Int)) ∧ w'.cell? ⟨N, 2, none⟩ = some (.int .u32 ((part zs 12 4 : Nat) : Int))) (by kernel_rfl) ?_ (fun hHeld => ?_)
  ·exact ⟨by simpa using y0, by simpa using y1, by simpa using y2⟩
  refine t8 (i := 0) (v := .agg #[.int .u64 ((part zs 0 8 : Nat) : Int), .int .u32 ((part zs 8 4 : Nat) : Int), .int .u32 ((part zs 12 4 : Nat) : Int)]) rfl hHeld ?_
  simp only [Act.put, z9]
  refine t8 (i := 1) (v := .pointer (some ⟨N, 0, none⟩)) rfl hHeld ?_
  simp only [Act.put, z9]
  refine t8 (i := 2) (v := .int .u64 ((part zs 0 8 : Nat) : Int)) rfl hHeld ?_
  simp only [Act.put, z9]
  refine t8 (i := 3) (v := .bool false) rfl hHeld ?_
  simp only [Act.put, z9]
  refine t8 (i := 4) (v := .bool false) rfl hHeld ?_
  simp only [Act.put, z9]
  refine t9 (i := 5) rfl hHeld ?_
  simp only [Act.put, z9]
  refine t9 (i := 6) rfl hHeld ?_
  simp only [Act.put, z9]
  refine t9 (i := 7) rfl hHeld ?_
  simp only [Act.put, z9]
  refine t9 (i := 8) rfl hHeld ?_
  simp only [Act.put, z9]
  refine t8 (i := 9) (v := .bool false) rfl hHeld ?_
  simp only [Act.put, z9]
  refine t8 (i := 10) (v := .bool false) rfl hHeld ?_
  simp only [Act.put, z9]
  refine t9 (i := 11) rfl hHeld ?_
  simp only [Act.put, z9]
  refine t9 (i := 12) rfl hHeld ?_
  simp only [Act.put, z9]
  refine t9 (i := 13) rfl hHeld ?_
  simp only [Act.put, z9]
  refine t9 (i := 14) rfl hHeld ?_
  simp only [Act.put, z9]
  refine t9 (i := 15) rfl hHeld ?_
  simp only [Act.put, z9]
  refine t9 (i := 16) rfl hHeld ?_
  simp only [Act.put, z9]
  refine t8 (i := 17) (v := .bool false) rfl hHeld ?_
  simp only [Act.put, z9]
  refine wpAnyH_ready (rs := [18]) (by kernel_rfl) (by simp) ?_
  refine AllReadyH.cons rfl (fun K hK => ?_) AllReadyH.nil
  rw [if_pos (by rfl)]
  refine wp_unit rfl (HST.out) ?_
  refine hK.out _ _ HY3.out (fun hHeld => ?_)
  clear hK K
  simp only [Act.put, z9]
  refine t8 (i := 19) (v := .bool false) rfl hHeld ?_
  simp only [Act.put, z9]
  refine wpAnyH_done (by kernel_rfl) ?_ _
  refine NoPanic.normal ?_
  go_wp2
  have HOK : Hid (rtOk zs = false) := by
   show rtOk zs = _
   unfold rtOk
   simp [he]
  refine bodyPost_ret (results_root rfl _ _ ⟨N, 0, none⟩ HY3.out rfl) rfl ?_
  rw [HOK.out]
  exact ⟨rfl, HO3.out⟩
 by_cases hz : part zs 16 8 = 0
 ·have g1 : (((part zs 0 8 : Nat) : Int) != 0) = true := by simpa using he
  have g2 : (((part zs 16 8 : Nat) : Int) == 0) = true := by simpa using hz
  refine wp_region_noPanic ?_
  refine wp_region_held_drew (S := fun w' => w'.cell? ⟨N, 0, none⟩ = some (.int .u64 ((part zs 0 8 : Nat) : Int)) ∧ w'.cell? ⟨N, 1, none⟩ = some (.int .u32 ((part zs 8 4 : Nat) : Int)) ∧ w'.cell? ⟨N, 2, none⟩ = some (.int .u32 ((part zs 12 4 : Nat) : Int))) (by kernel_rfl) ?_ (fun hHeld => ?_)
  ·exact ⟨by simpa using y0, by simpa using y1, by simpa using y2⟩
  refine t8 (i := 0) (v := .agg #[.int .u64 ((part zs 0 8 : Nat) : Int), .int .u32 ((part zs 8 4 : Nat) : Int), .int .u32 ((part zs 12 4 : Nat) : Int)]) rfl hHeld ?_
  simp only [Act.put, z9]
  refine t8 (i := 1) (v := .pointer (some ⟨N, 0, none⟩)) rfl hHeld ?_
  simp only [Act.put, z9]
  refine t8 (i := 2) (v := .int .u64 ((part zs 0 8 : Nat) : Int)) rfl hHeld ?_
  simp only [Act.put, z9]
  refine t8 (i := 3) (v := .bool true) rfl hHeld ?_
  simp only [Act.put, z9]
  refine t8 (i := 4) (v := .bool true) rfl hHeld ?_
  simp only [Act.put, z9]
  refine t8 (i := 5) (v := .slice (some ⟨N + 1, 0, none⟩) 32 32) rfl hHeld ?_
  simp only [Act.put, z9]
  refine t8 (i := 6) (v := .slice (some ⟨N + 1, 16, none⟩) 8 16) rfl hHeld ?_
  simp only [Act.put, z9]
  refine wpAnyH_ready (rs := [7]) (by kernel_rfl) (by simp) ?_
  refine AllReadyH.cons rfl (fun K hK => ?_) AllReadyH.nil
  rw [if_pos (by rfl)]
  refine wp_call_func #[.tmp 35] #[37] rfl #[.slice (some ⟨N + 1, 16, none⟩) 8 16] (by simp [Act.eval]) (enters_of Tryz.func114 (by kernel_rfl) rfl) (HNM.out _ 16 8 16 OD3.out (by omega) (by omega) (by omega)) (fun e W4 he4 => ?_)
  obtain ⟨rfl, rfl⟩ := he4
  refine ⟨_, rfl, ?_⟩
  refine hK.out _ _ hHeld (fun hHeld => ?_)
  clear hK K
  simp only [Act.put, z9]
  refine t8 (i := 8) (v := .bool true) rfl hHeld ?_
  simp only [Act.put, z9]
  refine t8 (i := 9) (v := .bool true) rfl hHeld ?_
  simp only [Act.put, z9]
  refine t8 (i := 10) (v := .bool true) rfl hHeld ?_
  simp only [Act.put, z9]
  refine t8 (i := 11) (v := .slice (some ⟨N + 1, 0, none⟩) 32 32) rfl hHeld ?_
  simp only [Act.put, z9]
  refine t8 (i := 12) (v := .slice (some ⟨N + 1, 24, none⟩) 8 8) rfl hHeld ?_
  simp only [Act.put, z9]
  refine t8 (i := 14) (v := .pointer (some ⟨N, 0, none⟩)) rfl hHeld ?_
  simp only [Act.put, z9]
  refine t8 (i := 15) (v := .int .u64 ((part zs 0 8 : Nat) : Int)) rfl hHeld ?_
  simp only [Act.put, z9]
  refine wpAnyH_ready (rs := [13]) (by kernel_rfl) (by simp) ?_
  refine AllReadyH.cons rfl (fun K hK => ?_) AllReadyH.nil
  rw [if_pos (by rfl)]
  refine wp_call_func #[.tmp 41] #[37] rfl #[.slice (some ⟨N + 1, 24, none⟩) 8 8] (by simp [Act.eval]) (enters_of Tryz.func114 (by kernel_rfl) rfl) (HNM.out _ 24 8 8 OD3.out (by omega) (by omega) (by omega)) (fun e W4 he4 => ?_)
  obtain ⟨rfl, rfl⟩ := he4
  refine ⟨_, rfl, ?_⟩
  refine hK.out _ _ hHeld (fun hHeld => ?_)
  clear hK K
  simp only [Act.put, z9]
  refine t8 (i := 16) (v := .bool (((part zs 24 8 : Nat) : Int) == ((part zs 0 8 : Nat) : Int))) rfl hHeld ?_
  simp only [Act.put, z9]
  refine t8 (i := 17) (v := .bool (((part zs 24 8 : Nat) : Int) == ((part zs 0 8 : Nat) : Int))) rfl hHeld ?_
  simp only [Act.put, z9]
  refine wpAnyH_ready (rs := [18]) (by kernel_rfl) (by simp) ?_
  refine AllReadyH.cons rfl (fun K hK => ?_) AllReadyH.nil
  rw [if_pos (by rfl)]
  refine wp_unit rfl (HST.out) ?_
  refine hK.out _ _ HY3.out (fun hHeld => ?_)
  clear hK K
  simp only [Act.put, z9]
  refine t8 (i := 19) (v := .bool (((part zs 24 8 : Nat) : Int) == ((part zs 0 8 : Nat) : Int))) rfl hHeld ?_
  simp only [Act.put, z9]
  refine wpAnyH_done (by kernel_rfl) ?_ _
  refine NoPanic.normal ?_
  go_wp2
  have HOK : Hid (rtOk zs = (((part zs 24 8 : Nat) : Int) == ((part zs 0 8 : Nat) : Int))) := by
   show rtOk zs = _
   unfold rtOk
   rw [show (part zs 0 8 != 0) = true by simpa using he, show (part zs 16 8 == 0) = true by simpa using hz, Bool.true_and, Bool.true_and, Bool.eq_iff_iff]; simp; omega
  refine bodyPost_ret (results_root rfl _ _ ⟨N, 0, none⟩ HY3.out rfl) rfl ?_
  rw [HOK.out]
  exact ⟨rfl, HO3.out⟩
 ·have g1 : (((part zs 0 8 : Nat) : Int) != 0) = true := by simpa using he
  have g2 : (((part zs 16 8 : Nat) : Int) == 0) = false := by simpa using hz
  refine wp_region_noPanic ?_
  refine wp_region_held_drew (S := fun w' => w'.cell? ⟨N, 0, none⟩ = some (.int .u64 ((part zs 0 8 : Nat) : Int)) ∧ w'.cell? ⟨N, 1, none⟩ = some (.int .u32 ((part zs 8 4 : Nat) : Int)) ∧ w'.cell? ⟨N, 2, none⟩ = some (.int .u32 ((part zs 12 4 : Nat) : Int))) (by kernel_rfl) ?_ (fun hHeld => ?_)
  ·exact ⟨by simpa using y0, by simpa using y1, by simpa using y2⟩
  refine t8 (i := 0) (v := .agg #[.int .u64 ((part zs 0 8 : Nat) : Int), .int .u32 ((part zs 8 4 : Nat) : Int), .int .u32 ((part zs 12 4 : Nat) : Int)]) rfl hHeld ?_
  simp only [Act.put, z9]
  refine t8 (i := 1) (v := .pointer (some ⟨N, 0, none⟩)) rfl hHeld ?_
  simp only [Act.put, z9]
  refine t8 (i := 2) (v := .int .u64 ((part zs 0 8 : Nat) : Int)) rfl hHeld ?_
  simp only [Act.put, z9]
  refine t8 (i := 3) (v := .bool true) rfl hHeld ?_
  simp only [Act.put, z9]
  refine t8 (i := 4) (v := .bool true) rfl hHeld ?_
  simp only [Act.put, z9]
  refine t8 (i := 5) (v := .slice (some ⟨N + 1, 0, none⟩) 32 32) rfl hHeld ?_
  simp only [Act.put, z9]
  refine t8 (i := 6) (v := .slice (some ⟨N + 1, 16, none⟩) 8 16) rfl hHeld ?_
  simp only [Act.put, z9]
  refine wpAnyH_ready (rs := [7]) (by kernel_rfl) (by simp) ?_
  refine AllReadyH.cons rfl (fun K hK => ?_) AllReadyH.nil
  rw [if_pos (by rfl)]
  refine wp_call_func #[.tmp 35] #[37] rfl #[.slice (some ⟨N + 1, 16, none⟩) 8 16] (by simp [Act.eval]) (enters_of Tryz.func114 (by kernel_rfl) rfl) (HNM.out _ 16 8 16 OD3.out (by omega) (by omega) (by omega)) (fun e W4 he4 => ?_)
  obtain ⟨rfl, rfl⟩ := he4
  refine ⟨_, rfl, ?_⟩
  refine hK.out _ _ hHeld (fun hHeld => ?_)
  clear hK K
  simp only [Act.put, z9]
  refine t8 (i := 8) (v := .bool false) rfl hHeld ?_
  simp only [Act.put, z9]
  refine t8 (i := 9) (v := .bool false) rfl hHeld ?_
  simp only [Act.put, z9]
  refine t8 (i := 10) (v := .bool false) rfl hHeld ?_
  simp only [Act.put, z9]
  refine t9 (i := 11) rfl hHeld ?_
  simp only [Act.put, z9]
  refine t9 (i := 12) rfl hHeld ?_
  simp only [Act.put, z9]
  refine t9 (i := 13) rfl hHeld ?_
  simp only [Act.put, z9]
  refine t9 (i := 14) rfl hHeld ?_
  simp only [Act.put, z9]
  refine t9 (i := 15) rfl hHeld ?_
  simp only [Act.put, z9]
  refine t9 (i := 16) rfl hHeld ?_
  simp only [Act.put, z9]
  refine t8 (i := 17) (v := .bool false) rfl hHeld ?_
  simp only [Act.put, z9]
  refine wpAnyH_ready (rs := [18]) (by kernel_rfl) (by simp) ?_
  refine AllReadyH.cons rfl (fun K hK => ?_) AllReadyH.nil
  rw [if_pos (by rfl)]
  refine wp_unit rfl (HST.out) ?_
  refine hK.out _ _ HY3.out (fun hHeld => ?_)
  clear hK K
  simp only [Act.put, z9]
  refine t8 (i := 19) (v := .bool false) rfl hHeld ?_
  simp only [Act.put, z9]
  refine wpAnyH_done (by kernel_rfl) ?_ _
  refine NoPanic.normal ?_
  go_wp2
  have HOK : Hid (rtOk zs = false) := by
   show rtOk zs = _
   unfold rtOk
   simp [hz]
  refine bodyPost_ret (results_root rfl _ _ ⟨N, 0, none⟩ HY3.out rfl) rfl ?_
  rw [HOK.out]
  exact ⟨rfl, HO3.out⟩
end Go.Proofs.YtlcglapcmdpkfaaGreat
