import Derived.Test.YtlcglapcmdpkfaaGreatP4
namespace Go.Proofs.YtlcglapcmdpkfaaGreat
open Go.RowKit
set_option linter.unusedSimpArgs false
set_option linter.unusedVariables false
theorem piece_any (g o n c p s : Nat) (w : World) (h : p + s ≤ c) (hc : p + s ≤ 140737488355328) :
  Calls Tryz.prog 109 #[.slice (some ⟨g, o, none⟩) n c, .int .i64 p, .int .i64 s] w fun e w' => ∃ a, e = .returned (.slice a s s) ∧ (0 < s → a = some ⟨g, o + p, none⟩) ∧ w' = w := by
 by_cases hs : 0 < s
 ·refine (piece_pos g o n c p s w h hs hc).mono ?_
  rintro e w' ⟨rfl, rfl⟩
  exact ⟨_, rfl, fun _ => rfl, rfl⟩
 ·obtain rfl : s = 0 := by omega
  refine (piece_zero _ n c p w (by omega) (by omega)).mono ?_
  rintro e w' ⟨rfl, rfl⟩
  exact ⟨_, rfl, fun h => by omega, rfl⟩
def UnpIs (r : Option (Nat × List Nat)) (w : World) (e : Ending) (w' : World) : Prop :=
 match r with
 | none => e = .returned (.tuple #[.int .u32 0, .slice none 0 0, .int .i64 5]) ∧ Only (fun _ => False) w w'
 | some (i, D) => ∃ u, e = .returned (.tuple #[.int .u32 (i : Nat), u, .int .i64 0]) ∧ Fresh w' w.heap.size u D ∧ Only (fun _ => False) w w'
theorem BytesAt.cut {w : World} {g o n c : Nat} {zs : List Nat} (h : BytesAt w (.slice (some ⟨g, o, none⟩) n c) zs) (p m c' : Nat) (hm : p + m ≤ zs.length) (hc : m ≤ c') : BytesAt w (.slice (some ⟨g, o + p, none⟩) m c') ((zs.drop p).take m) := by
 have e : ((zs.drop p).take m).length = m := by rw [List.length_take, List.length_drop]; omega
 obtain ⟨a, c2, hv, _, hcell⟩ := h.form
 simp only [Value.slice.injEq] at hv
 obtain ⟨rfl, _, rfl⟩ := hv
 refine ⟨.inr ⟨⟨g, o + p, none⟩, c', by rw [e], by omega, fun j hj => ?_⟩, by have := h.2.1; omega, fun z hz => h.2.2 z (List.mem_of_mem_drop (List.mem_of_mem_take hz))⟩
 rw [e] at hj
 obtain ⟨g', o', hv, hx⟩ := hcell (p + j) (by omega)
 simp only [Option.some.injEq, Addr.mk.injEq, and_true] at hv
 obtain ⟨rfl, rfl⟩ := hv
 rw [Addr.add_mid, Nat.add_assoc, hx]
 have : ((zs.drop p).take m).getD j 0 = zs.getD (p + j) 0 := by
  simp only [List.getD]
  rw [List.getElem?_take_of_lt (by omega), List.getElem?_drop]
 simp only [this]
theorem BytesAt.none {w : World} (a : Option Addr) (c : Nat) (h : a = Option.none → c = 0) : BytesAt w (.slice a 0 c) [] := by
 cases a with
 | none => rw [h rfl]; exact ⟨.inl ⟨rfl, rfl⟩, by simp, by simp⟩
 | some ad => exact ⟨.inr ⟨ad, c, rfl, by simp, fun j hj => by simp at hj⟩, by simp, by simp⟩
theorem splice_all {Z Y : List Nat} (h : Z.length = Y.length) : splice Z 0 Y = Y := by
 unfold splice
 rw [List.take_zero, List.nil_append, Nat.zero_add, ← h, List.drop_length, List.append_nil]
theorem copy_blk {W : World} {g : Nat} {zs : List Nat} (h : Blk W g zs) (o : Nat) (dp : Option Addr) (n c : Nat) (sp : Option Addr) (m c2 : Nat) (ys : List Nat) (hl : ys.length = min m n) (hy : ∀ z ∈ ys, z < 256) (ho : o + ys.length ≤ zs.length)
  (hd : 0 < ys.length → dp = some ⟨g, o, none⟩) (hs : 0 < ys.length → BytesAt W (.slice sp ys.length ys.length) ys) :
  ∃ w', (∀ ty, (Builtin.copy_ #[37, 37] ty #[.slice dp n c, .slice sp m c2]).run Tryz.prog W = .ok (.int .i64 (ys.length : Nat)) w') ∧ Blk w' g (splice zs o ys) ∧ Only (fun i => i = g) W w' := by
 by_cases h0 : ys.length = 0
 ·obtain rfl : ys = [] := List.eq_nil_of_length_eq_zero h0
  refine ⟨W, fun ty => ?_, by simpa [splice] using h, Only.refl _ _⟩
  have := run_copy_none (P := Tryz.prog) W 37 37 ty 5 dp sp n c m c2 Tryz.underlying37 size5 (by simpa using hl.symm)
  rw [this]; rfl
 ·obtain rfl := hd (by omega)
  obtain ⟨a', c', hv, _, hcell⟩ := (hs (by omega)).form
  simp only [Value.slice.injEq] at hv
  obtain ⟨rfl, _, rfl⟩ := hv
  obtain ⟨g', o', rfl, _⟩ := hcell 0 (by omega)
  have hrun := fun ty => run_copy_row (P := Tryz.prog) W 37 37 ty 5 g o n c ⟨g', o', none⟩ m c2 (BL zs).toArray 5 (BL ys) Tryz.underlying37 size5 h.1 (by rw [BL_length]; exact hl) (fun j u hu => by
   have hj : j < ys.length := by have := (List.getElem?_eq_some_iff.1 hu).1; rwa [BL_length] at this
   obtain ⟨g2, o2, e2, hx⟩ := hcell j hj
   simp only [Option.some.injEq, Addr.mk.injEq, and_true] at e2
   obtain ⟨rfl, rfl⟩ := e2
   rw [Addr.add_mid, hx]
   rw [BL_get _ _ hj] at hu
   rw [← hu]
   simp [List.getD, hj]) (by simp [BL_length]; exact ho) (BL_one ys)
  refine ⟨W.setRow g ((BL zs).toArray.toList.take o ++ (BL ys ++ (BL zs).toArray.toList.drop (o + (BL ys).length))).toArray, fun ty => (hrun ty).trans (by rw [BL_length]; simp [goInt]), ?_, ⟨rfl, rfl, rfl, by simp [World.setRow], fun k hk hn => setRow_other W g k _ (fun e => hn e)⟩⟩
  refine Blk.spliced h hy ho ?_
  exact setRow_heap W g _ _ 5 _ h.1
set_option maxRecDepth 100000 in
set_option maxHeartbeats 2000000 in
theorem unpack_any (v : Value) (b : List Nat) (w : World) (h : BytesAt w v b) (hb : b.length = 128) :
  Calls Tryz.prog 136 #[v] w fun e w' => UnpIs (unp b) w e w' := by
 obtain ⟨a, c, rfl, hcap, hc⟩ := h.form
 obtain ⟨g, o, rfl, _⟩ := hc 0 (by omega)
 rw [hb] at h hcap
 rw [hb]
 have HBY : Hid (BytesAt w (.slice (some ⟨g, o, none⟩) 128 c) b) := h
 have hd : BytesAt w.drew (.slice (some ⟨g, o, none⟩) 128 c) b := h.frame (Only.refl _ w).drew
 obtain ⟨x0, hx0⟩ : ∃ x, x = val4 b 0 := ⟨_, rfl⟩
 obtain ⟨x4, hx4⟩ : ∃ x, x = val4 b 4 := ⟨_, rfl⟩
 obtain ⟨s, hs⟩ : ∃ x, x = val4 b 8 := ⟨_, rfl⟩
 obtain ⟨y, hy⟩ : ∃ x, x = sumN (b.drop 4) := ⟨_, rfl⟩
 have HN0 : Hid (Calls Tryz.prog 148 #[.slice (some ⟨g, o, none⟩) 128 c, .int .i64 0] w.drew fun e w' => e = .returned (.int .u32 (x0 : Nat)) ∧ w' = w.drew) := by
  rw [hx0]; exact numat_any _ b 0 w.drew hd (by omega)
 have HS0 : Hid (Calls Tryz.prog 126 #[.slice (some ⟨g, o + 4, none⟩) 124 (c - 4)] w.drew fun e w' => e = .returned (.int .u32 (y : Nat)) ∧ w' = w.drew) := by
  rw [hy]
  have := hd.cut 4 124 (c - 4) (by omega) (by omega)
  rw [List.take_of_length_le (by rw [List.length_drop]; omega)] at this
  exact sum_any _ _ w.drew this
 have HU : Hid (unp b = if x0 = y then if 116 < s then none else if (b.drop (12 + s)).all (· == 0) then some (x4, (b.drop 12).take s) else none else none) := by rw [hx0, hy, hs, hx4]; rfl
 have HS8 : Hid (∀ w', Only (fun _ => False) w w' → Calls Tryz.prog 148 #[.slice (some ⟨g, o, none⟩) 128 c, .int .i64 8] w' fun e w2 => e = .returned (.int .u32 (s : Nat)) ∧ w2 = w') := fun w' ho => by
  rw [hs]; exact numat_any _ b 8 w' (HBY.out.frame ho) (by omega)
 have HS4 : Hid (∀ w', Only (fun _ => False) w w' → Calls Tryz.prog 148 #[.slice (some ⟨g, o, none⟩) 128 c, .int .i64 4] w' fun e w2 => e = .returned (.int .u32 (x4 : Nat)) ∧ w2 = w') := fun w' ho => by
  rw [hx4]; exact numat_any _ b 4 w' (HBY.out.frame ho) (by omega)
 have hs32 : s < 4294967296 := by rw [hs]; exact val4_lt h.2.2 8
 have HBL : Hid (b.length = 128) := hb
 have OD : Hid (Only (fun _ => False) w w.drew) := (Only.refl _ w).drew
 clear hc h hd hx0 hx4 hs hy hb
 have c1 : (4 : Int) ≤ (c : Int) := by omega
 go_enter Tryz.func136, Tryz.ntmps136
 go_wp2_with fail
 go_region_held3 (fun _ => True) (trivial) (first
  | (go_at_call 126; refine (show Calls Tryz.prog 126 _ _ _ from HS0.out).mono ?_; rintro e w' ⟨rfl, rfl⟩)
  | (go_at_call 148; refine (show Calls Tryz.prog 148 _ _ _ from HN0.out).mono ?_; rintro e w' ⟨rfl, rfl⟩))
 clear HN0 HS0
 by_cases hxy : x0 = y
 ·have he : ((x0 : Int) != (y : Int)) = false := by simp [hxy]
  have HXY : Hid (x0 = y) := hxy
  clear hxy
  go_wp2_with fail
  refine (show Calls Tryz.prog 148 _ _ _ from HS8.out w.drew OD.out).mono ?_
  rintro e w1 ⟨rfl, rfl⟩
  clear HS8 he
  by_cases hlg : 116 < s
  ·have s1 : (116 : Int) < (s : Int) := by omega
   go_wp2
   go_ret3
   show UnpIs (unp b) w _ _
   rw [HU.out, if_pos HXY.out, if_pos hlg]
   exact ⟨rfl, OD.out⟩
  ·have s1 : ¬ (116 : Int) < (s : Int) := by omega
   have s2 : IntKind.i64.wrap (12 + (s : Int)) = 12 + (s : Int) := by rw [IntKind.wrap_i64]; omega
   have s3 : (12 : Int) + (s : Int) ≤ 128 := by omega
   have s4 : (0 : Int) ≤ 12 + (s : Int) := by omega
   have s5 : ((12 : Int) + (s : Int)).toNat = 12 + s := by omega
   have HU2 : Hid (unp b = if (b.drop (12 + s)).all (· == 0) then some (x4, (b.drop 12).take s) else none) := (by rw [HU.out, if_pos HXY.out, if_neg hlg] : _ = _)
   have hsd : BytesAt w.drew (.slice (some ⟨g, o, none⟩) 128 c) b := HBY.out.frame OD.out
   have hlen : (b.drop (12 + s)).length = 128 - (12 + s) := by rw [List.length_drop, HBL.out]
   have HAZ1 : Hid (Calls Tryz.prog 149 #[.slice (some ⟨g, o + (12 + s), none⟩) (128 - (12 + s)) (c - (12 + s))] w.drew fun e w' => e = .returned (.bool ((b.drop (12 + s)).all (· == 0))) ∧ w' = w.drew) := by
    have := hsd.cut (12 + s) (128 - (12 + s)) (c - (12 + s)) (by have := HBL.out; omega) (by omega)
    rw [List.take_of_length_le (by omega)] at this
    exact allzero_any _ _ _ this
   have HAZ2 : Hid (c = 12 + s → Calls Tryz.prog 149 #[.slice (some ⟨g, o, none⟩) (128 - (12 + s)) 0] w.drew fun e w' => e = .returned (.bool ((b.drop (12 + s)).all (· == 0))) ∧ w' = w.drew) := fun hcs => by
    have e0 : 128 - (12 + s) = 0 := by omega
    rw [e0] at hlen
    rw [e0, List.eq_nil_of_length_eq_zero hlen]
    exact allzero_any _ _ _ (BytesAt.none _ _ (fun h => by cases h))
   have HP : Hid (∀ w', Calls Tryz.prog 109 #[.slice (some ⟨g, o, none⟩) 128 c, .int .i64 12, .int .i64 s] w' fun e w2 => ∃ a, e = .returned (.slice a s s) ∧ (0 < s → a = some ⟨g, o + 12, none⟩) ∧ w2 = w') := fun w' => piece_any g o 128 c 12 s w' (by omega) (by omega)
   obtain ⟨M, hM⟩ : ∃ M, M = BL (List.replicate s 0) := ⟨_, rfl⟩
   have hmk := make_blk s (by omega) w.drew
   rw [← hM] at hmk
   have HM : Hid (M = BL (List.replicate s 0)) := hM
   have HML : Hid (M.length = s) := (by rw [hM, BL_length]; simp : _ = _)
   have hdl : ((b.drop 12).take s).length = s := by rw [List.length_take, List.length_drop, HBL.out]; omega
   have HDL : Hid (((b.drop 12).take s).length = s) := hdl
   have HOA : Hid (Only (fun _ => False) w (w.alloc (.cells M.toArray 5)).drew) := (OD.out.alloc _ : Only (fun _ => False) w (w.drew.alloc (.cells M.toArray 5)))
   have HBZ : Hid (Blk (w.alloc (.cells M.toArray 5)).drew w.heap.size (List.replicate s 0)) := by rw [hM]; exact (blk_zeros s (by omega) w.drew : Blk (w.drew.alloc _) w.heap.size _)
   have HBB : Hid (∀ z ∈ (b.drop 12).take s, z < 256) := fun z hz => HBY.out.2.2 z (List.mem_of_mem_drop (List.mem_of_mem_take hz))
   obtain ⟨q, hq⟩ : ∃ q, q = (b.drop (12 + s)).all (· == 0) := ⟨_, rfl⟩
   rw [← hq] at HAZ1 HAZ2 HU2
   have HUT : Hid (q = true → unp b = some (x4, (b.drop 12).take s)) := fun h => by rw [HU2.out, h]; rfl
   have HUF : Hid (q = false → unp b = none) := fun h => by rw [HU2.out, h]; rfl
   clear HU2
   clear hsd hlen hM hdl hq HU HXY hlg
   go_wp2_with fail
   case inl =>
    obtain rfl : c = 12 + s := by omega
    refine (show Calls Tryz.prog 149 _ _ _ from HAZ2.out rfl).mono ?_
    rintro e w1 ⟨rfl, rfl⟩
    clear HAZ1 HAZ2
    cases q with
    | false =>
      go_wp2
      go_ret3
      show UnpIs (unp b) w _ _
      rw [HUF.out (by first | rfl | trivial)]
      exact ⟨rfl, OD.out⟩
    | true =>
      go_wp2_with fail
      refine (show Calls Tryz.prog 109 _ _ _ from HP.out _).mono ?_
      rintro e w1 ⟨a, rfl, ha, rfl⟩
      have HA : Hid (0 < s → a = some ⟨g, o + 12, none⟩) := ha
      clear ha hmk
      obtain ⟨w3, hr3, hb3, ho3⟩ := copy_blk HBZ.out 0 (some ⟨w.heap.size, 0, none⟩) s s a s s ((b.drop 12).take s) (by have := HDL.out; omega) HBB.out (by have := HDL.out; simp; omega) (fun _ => rfl) (fun hp => by
       rw [HA.out (by have := HDL.out; omega), HDL.out]
       exact (HBY.out.frame HOA.out).cut 12 s s (by have := HBL.out; omega) (Nat.le_refl _))
      rw [HDL.out] at hr3
      have hcp := hr3 3
      have HE : Hid (Fresh w3 w.heap.size (.slice (some ⟨w.heap.size, 0, none⟩) s s) ((b.drop 12).take s) ∧ Only (fun _ => False) w w3) := by
       refine ⟨?_, HOA.out.trans ho3 (fun i hi e => by omega)⟩
       have e : splice (List.replicate s 0) 0 ((b.drop 12).take s) = (b.drop 12).take s := splice_all (by rw [HDL.out]; simp)
       rw [e] at hb3
       exact hb3.fresh s HDL.out.symm (Nat.le_refl _)
      clear hr3 hb3 ho3
      go_wp2_with fail
      refine (show Calls Tryz.prog 148 _ _ _ from HS4.out _ HE.out.2).mono ?_
      rintro e w4 ⟨rfl, rfl⟩
      go_wp2
      go_ret3
      show UnpIs (unp b) w _ _
      rw [HUT.out (by first | rfl | trivial)]
      exact ⟨_, rfl, HE.out⟩
   case inr =>
    refine (show Calls Tryz.prog 149 _ _ _ from HAZ1.out).mono ?_
    rintro e w1 ⟨rfl, rfl⟩
    clear HAZ1 HAZ2
    cases q with
    | false =>
      go_wp2
      go_ret3
      show UnpIs (unp b) w _ _
      rw [HUF.out (by first | rfl | trivial)]
      exact ⟨rfl, OD.out⟩
    | true =>
      go_wp2_with fail
      refine (show Calls Tryz.prog 109 _ _ _ from HP.out _).mono ?_
      rintro e w1 ⟨a, rfl, ha, rfl⟩
      have HA : Hid (0 < s → a = some ⟨g, o + 12, none⟩) := ha
      clear ha hmk
      obtain ⟨w3, hr3, hb3, ho3⟩ := copy_blk HBZ.out 0 (some ⟨w.heap.size, 0, none⟩) s s a s s ((b.drop 12).take s) (by have := HDL.out; omega) HBB.out (by have := HDL.out; simp; omega) (fun _ => rfl) (fun hp => by
       rw [HA.out (by have := HDL.out; omega), HDL.out]
       exact (HBY.out.frame HOA.out).cut 12 s s (by have := HBL.out; omega) (Nat.le_refl _))
      rw [HDL.out] at hr3
      have hcp := hr3 3
      have HE : Hid (Fresh w3 w.heap.size (.slice (some ⟨w.heap.size, 0, none⟩) s s) ((b.drop 12).take s) ∧ Only (fun _ => False) w w3) := by
       refine ⟨?_, HOA.out.trans ho3 (fun i hi e => by omega)⟩
       have e : splice (List.replicate s 0) 0 ((b.drop 12).take s) = (b.drop 12).take s := splice_all (by rw [HDL.out]; simp)
       rw [e] at hb3
       exact hb3.fresh s HDL.out.symm (Nat.le_refl _)
      clear hr3 hb3 ho3
      go_wp2_with fail
      refine (show Calls Tryz.prog 148 _ _ _ from HS4.out _ HE.out.2).mono ?_
      rintro e w4 ⟨rfl, rfl⟩
      go_wp2
      go_ret3
      show UnpIs (unp b) w _ _
      rw [HUT.out (by first | rfl | trivial)]
      exact ⟨_, rfl, HE.out⟩
 ·have he : ((x0 : Int) != (y : Int)) = true := by simp; omega
  go_wp2
  go_ret3
  show UnpIs (unp b) w _ _
  rw [HU.out, if_neg hxy]
  exact ⟨rfl, OD.out⟩
end Go.Proofs.YtlcglapcmdpkfaaGreat
