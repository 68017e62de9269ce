import Derived.Test.YtlcglapcmdpkfaaGreatP3
namespace Go.Proofs.YtlcglapcmdpkfaaGreat
open Go.RowKit
set_option linter.unusedSimpArgs false
set_option linter.unusedVariables false
set_option maxHeartbeats 400000 in
theorem pack_large (id : Int) (a : Option Addr) (n c : Nat) (w : World) (h : 116 < n) :
  Calls Tryz.prog 108 #[.int .u32 id, .slice a n c] w fun e w' => e = .returned (.tuple #[.slice none 0 0, .int .i64 11]) ∧ w' = w := by
 have h1 : (116 : Int) < (n : Int) := by omega
 go_enter Tryz.func108, Tryz.ntmps108
 go_wp2
 go_ret2
 exact ⟨rfl, rfl⟩
set_option maxRecDepth 100000 in
set_option maxHeartbeats 1000000 in
theorem pack_ok (id : Nat) (v : Value) (D : List Nat) (w : World) (h : BytesAt w v D) (hD : D.length ≤ 116) (hid : id < 4294967296) :
  Calls Tryz.prog 108 #[.int .u32 id, v] w fun e w' => e = .returned (.tuple #[.slice (some ⟨w.heap.size, 0, none⟩) 128 128, .int .i64 0]) ∧ Blk w' w.heap.size (page id D) ∧ Only (fun _ => False) w w' := by
 have hmk : (Instr.makeSlice 37 (.int .i64 128) (.int .i64 128)).run Tryz.prog w = .ok (.slice (some ⟨w.heap.size, 0, none⟩) 128 128) (w.alloc (.cells (BL (List.replicate 128 0)).toArray 5)) := make_blk 128 (by omega) w
 have hbz := blk_zeros 128 (by omega) w
 obtain ⟨M, hM⟩ : ∃ M, M = BL (List.replicate 128 0) := ⟨_, rfl⟩
 have HM : Hid (M = BL (List.replicate 128 0)) := hM
 rw [← hM] at hmk hbz
 have HBZ : Hid (Blk (w.alloc (.cells M.toArray 5)) w.heap.size (List.replicate 128 0)) := hbz
 obtain ⟨a, c, rfl, hcap, hc⟩ := h.form
 have HBY : Hid (BytesAt w (.slice a D.length c) D) := h
 have HC : Hid _ := hc
 obtain ⟨n, hn⟩ : ∃ m, m = D.length := ⟨_, rfl⟩
 have HN : Hid (n = D.length) := hn
 have n1 : ¬ (116 : Int) < (n : Int) := by omega
 have hw32 : IntKind.u32.wrap (n : Int) = (n : Int) := by rw [IntKind.wrap_u32]; omega
 have n2 : n ≤ 116 := by omega
 have HML : Hid (M.length = 128) := (by rw [hM, BL_length]; simp : _ = _)
 rw [← hn] at HBY
 rw [← hn]
 obtain ⟨Y, hY⟩ : ∃ Y, Y = BL D := ⟨_, rfl⟩
 have HY : Hid (Y = BL D) := hY
 have HYL : Hid (Y.length = n) := (by rw [hY, BL_length, hn] : _ = _)
 have HOA : Hid (Only (fun _ => False) w (w.alloc (.cells M.toArray 5))) := (Only.refl _ w).alloc _
 have HSRC : Hid (0 < Y.length → ∃ ad, a = some ad ∧ ∀ j u, Y[j]? = some u → (w.alloc (.cells M.toArray 5)).cell? (ad.add j) = some u) := fun hp => by
  have hp2 : 0 < D.length := by have := HYL.out; omega
  obtain ⟨g, o, rfl, _⟩ := HC.out 0 hp2
  refine ⟨_, rfl, fun j u hu => ?_⟩
  rw [hY] at hu
  have hj : j < D.length := by have := (List.getElem?_eq_some_iff.1 hu).1; rwa [BL_length] at this
  obtain ⟨g', o', e', hcell⟩ := HC.out j hj
  simp only [Option.some.injEq, Addr.mk.injEq, and_true] at e'
  obtain ⟨rfl, rfl⟩ := e'
  rw [Addr.add_mid, HOA.out.cell hcell (fun e => e)]
  rw [BL_get _ _ hj] at hu
  rw [← hu]
  simp [List.getD, hj]
 have hsz : (w.alloc (.cells M.toArray 5)).heap.size = w.heap.size + 1 := by simp
 clear h hc hn hcap hM hbz hY hD
 go_enter Tryz.func108, Tryz.ntmps108
 go_wp2_with ((refine wpList_copy_splice rfl _ _ 37 37 rfl 5 Tryz.underlying37 size5 _ _ _ _ _ _ rfl rfl w.heap.size 12 M 5 (heap_alloc_new w _) Y (by have := HYL.out; show Y.length = min n 116; omega) (fun hp => ⟨rfl, HSRC.out hp⟩) (by have := HML.out; have := HYL.out; omega) (by rw [HY.out]; exact BL_one _) w.heap.size (w.alloc (.cells M.toArray 5)) (Below.refl _ _) (Nat.le_refl _) ?_); intro w1 HG1 hB1)
 have HB1 : Hid (Blk w1 w.heap.size (splice (List.replicate 128 0) 12 D)) := Blk.spliced HBZ.out HBY.out.2.2 (by have := HN.out; simp; omega) (by have := HG1.out; rwa [HM.out, HY.out] at this)
 have HO1 : Hid (Only (fun _ => False) w w1) := HOA.out.trans (Below.only hB1) (fun i hi e => by omega)
 clear HG1 hB1 HSRC hmk
 have hz1 : (splice (List.replicate 128 0) 12 D).length = 128 := by rw [length_splice _ _ _ (by have := HN.out; simp; omega)]; simp
 obtain ⟨Z1, hZ1⟩ : ∃ Z, Z = splice (List.replicate 128 0) 12 D := ⟨_, rfl⟩
 rw [← hZ1] at HB1 hz1
 have HZ1 : Hid (Z1 = splice (List.replicate 128 0) 12 D) := hZ1
 clear hZ1
 go_wp2_with fail
 refine (laynum_any w.heap.size 128 128 4 id Z1 w1 HB1.out (by omega) (by omega) (by omega) hid).mono ?_
 rintro e w2 ⟨rfl, hb2, ho2⟩
 have HB2 : Hid (Blk w2 w.heap.size (splice Z1 4 (lay4 id))) := hb2
 have HO2 : Hid (Only (fun _ => False) w w2) := HO1.out.trans ho2 (fun i hi e => by omega)
 clear hb2 ho2 HB1 HO1
 have hz2 : (splice Z1 4 (lay4 id)).length = 128 := by rw [length_splice _ _ _ (by rw [lay4_length]; omega)]; exact hz1
 obtain ⟨Z2, hZ2⟩ : ∃ Z, Z = splice Z1 4 (lay4 id) := ⟨_, rfl⟩
 rw [← hZ2] at HB2 hz2
 have HZ2 : Hid (Z2 = splice Z1 4 (lay4 id)) := hZ2
 clear hZ2
 go_wp2_with fail
 refine (laynum_any w.heap.size 128 128 8 n Z2 w2 HB2.out (by omega) (by omega) (by omega) (by omega)).mono ?_
 rintro e w3 ⟨rfl, hb3, ho3⟩
 have HO3 : Hid (Only (fun _ => False) w w3) := HO2.out.trans ho3 (fun i hi e => by omega)
 have hz3 : splice Z2 8 (lay4 n) = [0, 0, 0, 0] ++ rest id D := by
  rw [HZ2.out, HZ1.out, HN.out]
  exact lays id D (by have := HN.out; omega)
 rw [hz3] at hb3
 have hl3 : ([0, 0, 0, 0] ++ rest id D).length = 128 := by rw [List.length_append, rest_length id D (by have := HN.out; omega)]; rfl
 have HE : Hid (∀ x, x = sumN (([0, 0, 0, 0] ++ rest id D).drop 4) → splice ([0, 0, 0, 0] ++ rest id D) 0 (lay4 x) = page id D) := fun x hx => by rw [hx]; exact lays_end id D
 obtain ⟨Z3, hZ3⟩ : ∃ Z, Z = [0, 0, 0, 0] ++ rest id D := ⟨_, rfl⟩
 rw [← hZ3] at hb3 hl3 HE
 have HB3 : Hid (Blk w3 w.heap.size Z3) := hb3
 have hs : sumN (Z3.drop 4) < 4294967296 := sumN_lt _ (fun z h => hb3.2.2 z (List.mem_of_mem_drop h))
 have hbs : BytesAt w3 (.slice (some ⟨w.heap.size, 4, none⟩) 124 124) (Z3.drop 4) := by
  have := hb3.bytes 4 124 124 (by omega) (Nat.le_refl _)
  rwa [List.take_of_length_le (by rw [List.length_drop]; omega)] at this
 obtain ⟨x, hx⟩ : ∃ x, x = sumN (Z3.drop 4) := ⟨_, rfl⟩
 have HS : Hid (Calls Tryz.prog 126 #[.slice (some ⟨w.heap.size, 4, none⟩) 124 124] w3 fun e w' => e = .returned (.int .u32 (x : Nat)) ∧ w' = w3) := by rw [hx]; exact sum_any _ _ _ hbs
 rw [← hx] at hs
 have HX : Hid (splice Z3 0 (lay4 x) = page id D) := HE.out x hx
 clear hb3 ho3 HB2 HO2 hz3 hZ3 hbs hx HE
 go_wp2_with fail
 refine (show Calls Tryz.prog 126 _ _ _ from HS.out).mono ?_
 rintro e w4 ⟨rfl, rfl⟩
 clear HS
 go_wp2_with fail
 refine (laynum_any w.heap.size 128 128 0 x Z3 w4 HB3.out (by omega) (by omega) (by omega) hs).mono ?_
 rintro e w5 ⟨rfl, hb5, ho5⟩
 rw [HX.out] at hb5
 have HB5 : Hid (Blk w5 w.heap.size (page id D)) := hb5
 have HO5 : Hid (Only (fun _ => False) w w5) := HO3.out.trans ho5 (fun i hi e => by omega)
 clear hb5 ho5
 go_wp2
 go_ret2
 exact ⟨rfl, HB5.out, HO5.out⟩
end Go.Proofs.YtlcglapcmdpkfaaGreat
