import Derived.Test.YtlcglapcmdpkfaaGreatE2
import Derived.Test.YtlcglapcmdpkfaaGreatP5
namespace Go.Proofs.YtlcglapcmdpkfaaGreat
open Go.RowKit
set_option linter.unusedSimpArgs false
set_option linter.unusedVariables false
theorem splice_mid (A Y : List Nat) (k m : Nat) (hk : A.length = k) (hY : Y.length ≤ m) : splice (A ++ List.replicate m 0) k Y = (A ++ Y) ++ List.replicate (m - Y.length) 0 := by
 unfold splice
 subst hk
 rw [List.take_left', List.drop_append, List.drop_replicate]
 ·rw [List.drop_eq_nil_of_le (by omega), List.nil_append, List.append_assoc, show m - (A.length + Y.length - A.length) = m - Y.length by omega]
 ·rfl
theorem sec_bytes {w : World} {g c : Nat} {f : Nat → Int} (h : w.rangeAt g 0 (secL f)) (hc : 32 ≤ c) (hf : Byt f) : BytesAt w (.slice (some ⟨g, 0, none⟩) 32 c) (secN f) := by
 refine ⟨.inr ⟨⟨g, 0, none⟩, c, by rw [secN_length], by rw [secN_length]; exact hc, fun j hj => ?_⟩, by rw [secN_length]; omega, secN_lt hf⟩
 rw [secN_length, Nat.mul_one] at hj
 rw [Addr.add_mid]
 have := h j _ (secL_get f j hj)
 rw [this]
 show some _ = some (Value.int IntKind.u8 (((secN f).getD j 0 : Nat) : Int))
 rw [secN_getD f j hj]
 have := hf j
 simp only [Option.some.injEq, Value.int.injEq, true_and]
 omega
set_option maxRecDepth 100000 in
set_option maxHeartbeats 2000000 in
theorem pread_in (p S B : Nat) (P : Nat) (pv : Value) (d : DS) (w : World) (h : DiskAt w B p S pv d) (hP : P < d.n / 4) (hl : d.life ≠ 0) (hb : ByteD d) :
  Calls Tryz.prog 129 #[.pointer (some ⟨p, 0, none⟩), .int .i64 P] w fun e w' => UnpIs (unp (pgN d P 4)) w e w' := by
 obtain ⟨c0, hc0⟩ := h.c0
 have HR := preach_in p S d.n c0 P w h.n2 hc0 hP
 have n2 := h.n2
 have HD : Hid (DiskAt w B p S pv d) := h
 have HB : Hid (ByteD d) := hb
 have HL : Hid (d.life ≠ 0) := hl
 have HP : Hid (P < d.n / 4) := hP
 have hP2 : P < 2048 := by omega
 have hmk : (Instr.makeSlice 37 (.int .i64 128) (.int .i64 128)).run Tryz.prog w = .ok (.slice (some ⟨w.heap.size, 0, none⟩) 128 128) (w.alloc (.cells (BL (List.replicate 128 0)).toArray 5)) := make_blk 128 (by omega) w
 have hbz := blk_zeros 128 (by omega) w
 obtain ⟨M, hM⟩ : ∃ M, M = BL (List.replicate 128 0) := ⟨_, rfl⟩
 rw [← hM] at hmk hbz
 have HBZ : Hid (Blk (w.alloc (.cells M.toArray 5)) w.heap.size (List.replicate 128 0)) := hbz
 have HOA : Hid (Only (fun _ => False) w (w.alloc (.cells M.toArray 5))) := (Only.refl _ w).alloc _
 clear h hc0 hb hl hP hbz hM
 go_enter Tryz.func129, Tryz.ntmps129
 go_wp2_with fail
 refine HR.mono ?_
 rintro e w1 ⟨rfl, rfl⟩
 clear HR
 go_wp2_with fail
 clear hmk
 obtain ⟨g, hg⟩ : ∃ g, g = w1.heap.size := ⟨_, rfl⟩
 have HG : Hid (g = w1.heap.size) := hg
 rw [← hg] at HBZ
 rw [← hg]
 obtain ⟨w2, hw2⟩ : ∃ w2, w2 = w1.alloc (.cells M.toArray 5) := ⟨_, rfl⟩
 rw [← hw2] at HBZ HOA
 rw [← hw2]
 clear hg hw2
 go_loopw [19] (fun t wr => ∃ k : Nat, k ≤ 4 ∧ t = .int .i64 k ∧ Blk wr g (pgN d P k ++ List.replicate (128 - 32 * k) 0) ∧ Only (fun _ => False) w1 wr) (fun t _ => 4 - (intOf t).toNat)
 case atStart => exact ⟨0, by omega, rfl, HBZ.out, HOA.out⟩
 case round =>
  obtain ⟨k, hk, rfl, hbl, ho⟩ := hrel
  obtain ⟨w3, rfl⟩ : ∃ w3, w3 = wr := ⟨_, rfl⟩
  have HBL : Hid (Blk w3 g (pgN d P k ++ List.replicate (128 - 32 * k) 0)) := hbl
  have HO : Hid (Only (fun _ => False) w1 w3) := ho
  by_cases hlt : k < 4
  ·have k1 : (k : Int) < 4 := by omega
   have m1 : IntKind.i64.wrap ((P : Int) * 4) = (P : Int) * 4 := by rw [IntKind.wrap_i64]; omega
   have m2 : IntKind.i64.wrap ((P : Int) * 4 + (k : Int)) = (P : Int) * 4 + (k : Int) := by rw [IntKind.wrap_i64]; omega
   have m3 : IntKind.i64.wrap ((k : Int) * 32) = (k : Int) * 32 := by rw [IntKind.wrap_i64]; omega
   obtain ⟨o, ho'⟩ : ∃ o, o = k * 32 := ⟨_, rfl⟩
   have m4 : (k : Int) * 32 = (o : Int) := by omega
   rw [m4] at m3
   obtain ⟨q, hq⟩ : ∃ q, q = 4 * P + k := ⟨_, rfl⟩
   have m5 : (P : Int) * 4 + (k : Int) = (q : Int) := by omega
   rw [m5] at m2
   have hd3 := HD.out.frame ho (fun _ _ e => e)
   have HRD : Hid (Calls Tryz.prog 8 #[.pointer (some ⟨p, 0, none⟩), .int .i64 q] w3 fun e w' => e = .returned (.tuple #[.slice (some ⟨w3.heap.size, 0, none⟩) 32 32, .int .i64 0]) ∧ w' = w3.alloc (.cells (secL (d.sec q)).toArray 67)) := read_any p S q B pv d w3 hd3 HL.out (by have := HP.out; omega)
   obtain ⟨C, hC⟩ : ∃ C, C = (secL (d.sec q)).toArray := ⟨_, rfl⟩
   rw [← hC] at HRD
   have ho4 : Only (fun _ => False) w3 (w3.alloc (.cells C 67)) := (Only.refl _ _).alloc _
   have hb4 : Blk (w3.alloc (.cells C 67)) g (pgN d P k ++ List.replicate (128 - 32 * k) 0) := hbl.frame ho4 (fun e => e)
   have hs4 : BytesAt (w3.alloc (.cells C 67)) (.slice (some ⟨w3.heap.size, 0, none⟩) 32 32) (secN (d.sec q)) := sec_bytes (by
    intro j v hv
    rw [hC, Nat.zero_add, cell_of_row _ _ _ _ _ _ (heap_alloc_new w3 _)]
    simpa using hv) (by omega) (HB.out.sec q)
   have HPC : Hid (∀ w', Calls Tryz.prog 109 #[.slice (some ⟨g, 0, none⟩) 128 128, .int .i64 o, .int .i64 32] w' fun e w'' => e = .returned (.slice (some ⟨g, o, none⟩) 32 32) ∧ w'' = w') := fun w' => by
    have := piece_pos g 0 128 128 o 32 w' (by omega) (by omega) (by omega)
    rwa [Nat.zero_add] at this
   have hsn := secN_length (d.sec q)
   obtain ⟨w5, hr5, hb5, ho5⟩ := copy_blk hb4 o (some ⟨g, o, none⟩) 32 32 (some ⟨w3.heap.size, 0, none⟩) 32 32 (secN (d.sec q)) (by rw [hsn]; rfl) (secN_lt (HB.out.sec q)) (by rw [hsn, List.length_append, pgN_length, List.length_replicate]; omega) (fun _ => rfl) (fun _ => by rw [hsn]; exact hs4)
   rw [hsn] at hr5
   have hcp : (Builtin.copy_ #[37, 37] 3 #[.slice (some ⟨g, o, none⟩) 32 32, .slice (some ⟨w3.heap.size, 0, none⟩) 32 32]).run Tryz.prog (w3.alloc (.cells C 67)) = .ok (.int .i64 32) w5 := hr5 3
   have HB5 : Hid (Blk w5 g (pgN d P (k + 1) ++ List.replicate (128 - 32 * (k + 1)) 0)) := by
    rw [splice_mid _ _ o _ (by rw [pgN_length]; omega) (by rw [hsn]; omega), hsn, hq] at hb5
    rw [show 128 - 32 * (k + 1) = 128 - 32 * k - 32 by omega]
    exact hb5
   have HO5 : Hid (Only (fun _ => False) w1 w5) := (ho.trans ho4 (fun _ _ e => e)).trans ho5 (fun i hi e => by have := HG.out; omega)
   clear hbl ho hd3 ho4 hb4 hs4 hsn hr5 hb5 ho5 hC ho' hq
   go_wp2_with fail
   refine (show Calls Tryz.prog 8 _ _ _ from HRD.out).mono ?_
   rintro e w4 ⟨rfl, rfl⟩
   clear HRD
   go_wp2_with fail
   refine (show Calls Tryz.prog 109 _ _ _ from HPC.out _).mono ?_
   rintro e w4 ⟨rfl, rfl⟩
   clear HPC
   go_wp2
   go_roundw
   case rel => exact ⟨k + 1, by omega, by go_num, HB5.out, HO5.out⟩
   case measure => simp [intOf]; omega
  ·obtain rfl : k = 4 := by omega
   have hbl2 : Blk w3 g (pgN d P 4) := by simpa using hbl
   have hall := hbl2.all 128 (pgN_length d P 4).symm
   have HU : Hid (Calls Tryz.prog 136 #[.slice (some ⟨g, 0, none⟩) 128 128] w3 fun e w' => UnpIs (unp (pgN d P 4)) w3 e w') := unpack_any _ _ w3 hall (pgN_length d P 4)
   clear hbl ho hbl2 hall HBL
   go_wp2_with fail
   refine (show Calls Tryz.prog 136 _ _ _ from HU.out).mono ?_
   intro e w4 hU
   clear HU
   cases hr : unp (pgN d P 4) with
   | none =>
     have HRR : Hid (unp (pgN d P 4) = none) := hr
     rw [hr] at hU
     obtain ⟨rfl, ho4⟩ := hU
     have HE : Hid (Only (fun _ => False) w1 w4) := HO.out.trans ho4 (fun _ _ e => e)
     clear ho4 hr
     go_wp2
     go_ret3
     show UnpIs (unp (pgN d P 4)) w1 _ _
     rw [HRR.out]
     exact ⟨rfl, HE.out⟩
   | some x =>
     obtain ⟨i, D⟩ := x
     have HRR : Hid (unp (pgN d P 4) = some (i, D)) := hr
     rw [hr] at hU
     obtain ⟨u, rfl, hf4, ho4⟩ := hU
     have HE : Hid (Fresh w4 w1.heap.size u D ∧ Only (fun _ => False) w1 w4) := by
      refine ⟨⟨⟨hf4.1.1, ?_⟩, hf4.2⟩, HO.out.trans ho4 (fun _ _ e => e)⟩
      rcases hf4.1.2 with h2 | ⟨g', cap', cur', hv', hb', hr'⟩
      ·exact .inl h2
      ·exact .inr ⟨g', cap', cur', hv', by have := HO.out.size; omega, hr'⟩
     clear hf4 ho4 hr
     go_wp2
     go_ret3
     show UnpIs (unp (pgN d P 4)) w1 _ _
     rw [HRR.out]
     exact ⟨u, rfl, HE.out⟩
end Go.Proofs.YtlcglapcmdpkfaaGreat
