import Derived.Test.YtlcglapcmdpkfaaGreatL1
namespace Go.Proofs.YtlcglapcmdpkfaaGreat
open Go.RowKit
set_option linter.unusedSimpArgs false
set_option linter.unusedVariables false
def rootB (x f c : Nat) : List Nat := layB x 8 ++ (layB f 4 ++ (layB c 4 ++ (List.replicate 8 0 ++ layB x 8)))
theorem rootB_length (x f c : Nat) : (rootB x f c).length = 32 := by simp [rootB, layB_length]
theorem rootB_lt (x f c : Nat) : ∀ z ∈ rootB x f c, z < 256 := by
 intro z hz
 simp only [rootB, List.mem_append, List.mem_replicate] at hz
 rcases hz with h | h | h | h | h
 ·exact layB_lt _ _ z h
 ·exact layB_lt _ _ z h
 ·exact layB_lt _ _ z h
 ·omega
 ·exact layB_lt _ _ z h
theorem list8 {l : List Nat} (h : l.length = 8) : ∃ a b c d e f g i, l = [a, b, c, d, e, f, g, i] := by
 match l, h with
 | [a, b, c, d, e, f, g, i], _ => exact ⟨a, b, c, d, e, f, g, i, rfl⟩
theorem list4 {l : List Nat} (h : l.length = 4) : ∃ a b c d, l = [a, b, c, d] := by
 match l, h with
 | [a, b, c, d], _ => exact ⟨a, b, c, d, rfl⟩
theorem rootB_splice (x f c : Nat) : splice (splice (splice (splice (List.replicate 32 0) 0 (layB x 8)) 8 (layB f 4)) 12 (layB c 4)) 24 (layB x 8) = rootB x f c := by
 obtain ⟨a0, a1, a2, a3, a4, a5, a6, a7, ha⟩ := list8 (layB_length x 8)
 obtain ⟨b0, b1, b2, b3, hb⟩ := list4 (layB_length f 4)
 obtain ⟨c0, c1, c2, c3, hc⟩ := list4 (layB_length c 4)
 simp only [rootB, ha, hb, hc]
 rfl
theorem slay_hid (g o k c x : Nat) (zs : List Nat) (w : World) (h : Blk w g zs) (hp : o + k ≤ zs.length) (hk : k ≤ 8) (hx : x < 18446744073709551616) :
  Calls Tryz.prog 66 #[.slice (some ⟨g, o, none⟩) k c, .int .u64 x] w fun e w' => e = .returned (.tuple #[]) ∧ Hid (Blk w' g (splice zs o (layB x k)) ∧ Only (fun i => i = g) w w' ∧ w'.heap.size = w.heap.size) :=
 (slay_any g o k c x zs w h hp hk hx).mono fun _ _ h => h
set_option maxRecDepth 100000 in
set_option maxHeartbeats 4000000 in
theorem rootbytes_any (x f c : Nat) (w : World) (hx : x < 18446744073709551616) (hf : f < 4294967296) (hc : c < 4294967296) :
  Calls Tryz.prog 30 #[.agg #[.int .u64 x, .int .u32 f, .int .u32 c]] w fun e w' => e = .returned (.slice (some ⟨w.heap.size + 1, 0, none⟩) 32 32) ∧ Blk w' (w.heap.size + 1) (rootB x f c) ∧ Only (fun _ => False) w w' := by
 obtain ⟨Z, hZ⟩ : ∃ Z, Z = (BL (List.replicate 32 0)).toArray := ⟨_, rfl⟩
 have hmk : ∀ w, (Instr.makeSlice 37 (.int .i64 32) (.int .i64 32)).run Tryz.prog w = .ok (.slice (some ⟨w.heap.size, 0, none⟩) 32 32) (w.alloc (.cells Z 5)) := fun w => by rw [hZ]; exact make_blk 32 (by omega) w
 obtain ⟨wa, hwa⟩ : ∃ q, q = w.alloc (.cells #[.int .u64 x, .int .u32 f, .int .u32 c] 74) := ⟨_, rfl⟩
 obtain ⟨wx, hwx⟩ : ∃ q, q = wa.alloc (.cells Z 5) := ⟨_, rfl⟩
 obtain ⟨N, hN⟩ : ∃ q, q = w.heap.size := ⟨_, rfl⟩
 have oa : Only (fun _ => False) w wa := by rw [hwa]; exact (Only.refl _ w).alloc _
 have ox : Only (fun _ => False) wa wx := by rw [hwx]; exact (Only.refl _ wa).alloc _
 have sa : wa.heap.size = N + 1 := by rw [hwa, hN]; simp
 have ba : wa.heap[N]? = some (.cells #[.int .u64 x, .int .u32 f, .int .u32 c] 74 (0, 0)) := by rw [hwa, hN]; exact heap_alloc_new w _
 have bx : wx.heap[N]? = some (.cells #[.int .u64 x, .int .u32 f, .int .u32 c] 74 (0, 0)) := by rw [ox.block N (by omega) (fun e => e)]; exact ba
 have x0 : wx.cell? ⟨N, 0, none⟩ = some (.int .u64 x) := by rw [cell_of_row _ _ _ _ _ _ bx]; rfl
 have x1 : wx.cell? ⟨N, 1, none⟩ = some (.int .u32 f) := by rw [cell_of_row _ _ _ _ _ _ bx]; rfl
 have x2 : wx.cell? ⟨N, 2, none⟩ = some (.int .u32 c) := by rw [cell_of_row _ _ _ _ _ _ bx]; rfl
 have HB0 : Hid (Blk wx (N + 1) (List.replicate 32 0)) := by rw [hwx, hZ, ← sa]; exact blk_zeros 32 (by omega) wa
 have HP0 : Hid (Only (fun i => i = N + 1) w wx) := (oa.trans ox (fun _ _ e => e)).mono (fun _ _ e => e.elim)
 have HW : Hid (wx = (w.alloc (.cells #[.int .u64 x, .int .u32 f, .int .u32 c] 74)).alloc (.cells Z 5)) := (by rw [hwx, hwa] : _ = _)
 have HN : Hid (N = w.heap.size) := hN
 have HA : Hid (wa = w.alloc (.cells #[.int .u64 x, .int .u32 f, .int .u32 c] 74)) := hwa
 have hf64 : IntKind.u64.wrap (f : Int) = (f : Int) := by rw [IntKind.wrap_u64]; omega
 have hc64 : IntKind.u64.wrap (c : Int) = (c : Int) := by rw [IntKind.wrap_u64]; omega
 have HX0 : Hid _ := x0
 have HX1 : Hid _ := x1
 have HX2 : Hid _ := x2
 have HC0 : Hid (Calls Tryz.prog 66 _ _ _) := slay_hid (N + 1) 0 8 32 x _ wx.drew HB0.out (by simp) (by omega) hx
 clear hZ hwx hwa oa ox sa ba bx hN x1 x2
 go_enter Tryz.func30, Tryz.ntmps30
 go_wp2_with fail
 rw [← HW.out, ← HN.out]
 clear hmk
 go_region_held3 (fun w' => w'.cell? ⟨N, 0, none⟩ = some (.int .u64 x)) (first | exact (HK0.out.2.1.cell HX0.out (by simp)) | go_keep)
  (first
   | (go_at_call 66; refine (show Calls Tryz.prog 66 _ _ _ from HC0.out).mono ?_; rintro e w1 ⟨rfl, HK0⟩))
 clear HC0 x0
 have HP1 : Hid (Only (fun i => i = N + 1) w w1) := (HP0.out.drew).trans HK0.out.2.1 (fun _ _ e => e)
 have HY10 : Hid (w1.cell? ⟨N, 0, none⟩ = some (.int .u64 x)) := HK0.out.2.1.cell HX0.out (by simp)
 have HY11 : Hid (w1.cell? ⟨N, 1, none⟩ = some (.int .u32 f)) := HK0.out.2.1.cell HX1.out (by simp)
 have HY12 : Hid (w1.cell? ⟨N, 2, none⟩ = some (.int .u32 c)) := HK0.out.2.1.cell HX2.out (by simp)
 clear HX0 HX1 HX2
 rename Hid (w1.cell? ⟨N, 0, none⟩ = some (.int .u64 x)) => HX0
 rename Hid (w1.cell? ⟨N, 1, none⟩ = some (.int .u32 f)) => HX1
 rename Hid (w1.cell? ⟨N, 2, none⟩ = some (.int .u32 c)) => HX2
 have x1 := HX1.out
 have HC1 : Hid (Calls Tryz.prog 66 _ _ _) := slay_hid (N + 1) 8 4 24 f _ w1.drew HK0.out.1 (by rw [length_splice, List.length_replicate] <;> simp [layB_length]) (by omega) (by omega)
 go_wp2_with fail
 go_region_held3 (fun w' => w'.cell? ⟨N, 1, none⟩ = some (.int .u32 f)) (first | exact (HK1.out.2.1.cell HX1.out (by simp)) | go_keep)
  (first
   | (go_at_call 66; refine (show Calls Tryz.prog 66 _ _ _ from HC1.out).mono ?_; rintro e w2 ⟨rfl, HK1⟩))
 clear HC1 x1
 have HP2 : Hid (Only (fun i => i = N + 1) w w2) := (HP1.out.drew).trans HK1.out.2.1 (fun _ _ e => e)
 have HY20 : Hid (w2.cell? ⟨N, 0, none⟩ = some (.int .u64 x)) := HK1.out.2.1.cell HX0.out (by simp)
 have HY21 : Hid (w2.cell? ⟨N, 1, none⟩ = some (.int .u32 f)) := HK1.out.2.1.cell HX1.out (by simp)
 have HY22 : Hid (w2.cell? ⟨N, 2, none⟩ = some (.int .u32 c)) := HK1.out.2.1.cell HX2.out (by simp)
 clear HX0 HX1 HX2
 rename Hid (w2.cell? ⟨N, 0, none⟩ = some (.int .u64 x)) => HX0
 rename Hid (w2.cell? ⟨N, 1, none⟩ = some (.int .u32 f)) => HX1
 rename Hid (w2.cell? ⟨N, 2, none⟩ = some (.int .u32 c)) => HX2
 have x2 := HX2.out
 have HC2 : Hid (Calls Tryz.prog 66 _ _ _) := slay_hid (N + 1) 12 4 20 c _ w2.drew HK1.out.1 (by simp [splice, layB_length]) (by omega) (by omega)
 go_wp2_with fail
 go_region_held3 (fun w' => w'.cell? ⟨N, 2, none⟩ = some (.int .u32 c)) (first | exact (HK2.out.2.1.cell HX2.out (by simp)) | go_keep)
  (first
   | (go_at_call 66; refine (show Calls Tryz.prog 66 _ _ _ from HC2.out).mono ?_; rintro e w3 ⟨rfl, HK2⟩))
 clear HC2 x2
 have HP3 : Hid (Only (fun i => i = N + 1) w w3) := (HP2.out.drew).trans HK2.out.2.1 (fun _ _ e => e)
 have HY30 : Hid (w3.cell? ⟨N, 0, none⟩ = some (.int .u64 x)) := HK2.out.2.1.cell HX0.out (by simp)
 have HY31 : Hid (w3.cell? ⟨N, 1, none⟩ = some (.int .u32 f)) := HK2.out.2.1.cell HX1.out (by simp)
 have HY32 : Hid (w3.cell? ⟨N, 2, none⟩ = some (.int .u32 c)) := HK2.out.2.1.cell HX2.out (by simp)
 clear HX0 HX1 HX2
 rename Hid (w3.cell? ⟨N, 0, none⟩ = some (.int .u64 x)) => HX0
 rename Hid (w3.cell? ⟨N, 1, none⟩ = some (.int .u32 f)) => HX1
 rename Hid (w3.cell? ⟨N, 2, none⟩ = some (.int .u32 c)) => HX2
 have x0 := HX0.out
 have HC3 : Hid (Calls Tryz.prog 66 _ _ _) := slay_hid (N + 1) 24 8 8 x _ w3.drew HK2.out.1 (by simp [splice, layB_length]) (by omega) (by omega)
 go_wp2_with fail
 go_region_held3 (fun w' => w'.cell? ⟨N, 0, none⟩ = some (.int .u64 x)) (first | exact (HK3.out.2.1.cell HX0.out (by simp)) | go_keep)
  (first
   | (go_at_call 66; refine (show Calls Tryz.prog 66 _ _ _ from HC3.out).mono ?_; rintro e w4 ⟨rfl, HK3⟩))
 clear HC3 x0
 have HP4 : Hid (Only (fun i => i = N + 1) w w4) := (HP3.out.drew).trans HK3.out.2.1 (fun _ _ e => e)
 go_wp2
 go_ret
 refine ⟨by rw [← HN.out]; rfl, ?_, ?_⟩
 ·rw [← HN.out]
  have := HK3.out.1
  rw [rootB_splice] at this
  exact this
 ·exact HP4.out.mono (fun i hi e => by have := HN.out; omega)
end Go.Proofs.YtlcglapcmdpkfaaGreat
