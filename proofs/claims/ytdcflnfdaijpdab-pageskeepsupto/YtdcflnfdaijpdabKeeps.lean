/- The walk of PagesKeeps. -/
import Derived.Test.YtdcflnfdaijpdabK1
namespace Go.Proofs.Ytdcflnfdaijpdab
open Go.RowKit
set_option linter.unusedSimpArgs false
set_option linter.unusedVariables false

/-- What Pack answers: the error and the bytes. -/
def pq (D : List Nat) : Int := if D.length ≤ 116 then 0 else 11
def pz (i : Nat) (D : List Nat) : List Nat := if D.length ≤ 116 then page i D else []
theorem pack_form (i : Nat) (u : Value) (D : List Nat) (w : World) (hi : i < 4294967296) (hu : BytesAt w u D) :
    Calls Try.prog 6 #[.int .u32 i, u] w fun e w1 => ∃ a m c, e = .returned (.tuple #[.slice a m c, .int .i64 (pq D)]) ∧ Hid (Fresh w1 w.heap.size (.slice a m c) (pz i D) ∧ Only (fun _ => False) w w1) := by
  by_cases h : D.length ≤ 116
  · refine (pack_ok i u D w hu h hi).mono ?_
    rintro e w1 ⟨rfl, hb, ho⟩
    refine ⟨_, _, _, by rw [pq, if_pos h], ?_⟩
    rw [pz, if_pos h]
    exact ⟨hb.fresh 128 (page_length i D h).symm (Nat.le_refl _), ho⟩
  · obtain ⟨a, c, rfl, _, _⟩ := hu.form
    refine (pack_large i a _ c w (by omega)).mono ?_
    rintro e w1 ⟨rfl, rfl⟩
    refine ⟨_, _, _, by rw [pq, if_neg h], ?_⟩
    rw [pz, if_neg h]
    exact ⟨Fresh.nil _ _, Only.refl _ _⟩
theorem first_form (u : Value) (F : List Bool) (n : Int) (w : World) (hu : FlagsAt w u F) (hF : F.length ≤ 1048576) :
    Calls Try.prog 7 #[u, .int .i64 n] w fun e w1 => ∃ a m c q I, e = .returned (.tuple #[.slice a m c, .int .i64 q]) ∧ Hid (FreshI w1 w.heap.size (.slice a m c) I ∧ Only (fun _ => False) w w1) := by
  by_cases h : n < 0
  · refine (first_bad u n w h).mono ?_
    rintro e w1 ⟨rfl, rfl⟩
    exact ⟨_, _, _, _, [], rfl, FreshI.nil _ _, Only.refl _ _⟩
  · obtain ⟨N, rfl⟩ : ∃ N : Nat, n = N := ⟨n.toNat, by omega⟩
    refine (first_ok u F N w hu hF).mono ?_
    rintro e w1 (⟨_, rfl, ho⟩ | ⟨_, x, rfl, hf, ho⟩)
    · exact ⟨_, _, _, _, [], rfl, FreshI.nil _ _, ho⟩
    · obtain ⟨a, c, rfl, _⟩ := hf.form
      exact ⟨a, _, c, _, _, rfl, hf, ho⟩
theorem unpack_form (u : Value) (i : Nat) (D : List Nat) (w : World) (hi : i < 4294967296) (hD : D.length ≤ 116) (hz : ∀ z ∈ D, z < 256) (hu : BytesAt w u (page i D)) :
    Calls Try.prog 9 #[u] w fun e w1 => ∃ a m c, e = .returned (.tuple #[.int .u32 i, .slice a m c, .int .i64 0]) ∧ Hid (Fresh w1 w.heap.size (.slice a m c) D ∧ Only (fun _ => False) w w1) := by
  have := unpack_any u _ w hu (page_length i D hD)
  rw [unp_page i D hD hi hz] at this
  refine this.mono ?_
  rintro e w1 ⟨x, rfl, hf, ho⟩
  obtain ⟨a, c, rfl⟩ := hf.form
  exact ⟨a, _, c, rfl, hf, ho⟩

set_option maxRecDepth 100000 in
set_option maxHeartbeats 8000000 in
theorem keeps_any (id n : Int) (vd vu : Value) (D : List Nat) (F : List Bool) (w : World) (hd : BytesAt w vd D) (hu : FlagsAt w vu F) (hD : D.length ≤ 1048576) (hF : F.length ≤ 1048576) (hid : (Lit.int .u32 id).wf = true) :
    Calls Try.prog 3 #[.int .u32 id, vd, vu, .int .i64 n] w fun e w' => e = .returned (.bool true) ∧ Below w.heap.size w w' := by
  have b1 := u32_bounds hid
  obtain ⟨i, rfl⟩ : ∃ i : Nat, id = i := ⟨id.toNat, by omega⟩
  have hi : i < 4294967296 := by omega
  have HZ : Hid (∀ z ∈ D, z < 256) := hd.2.2
  have HB : Hid (BytesAt w vd D) := hd
  have HU : Hid (FlagsAt w vu F) := hu
  obtain ⟨ab, cb, hvb, _, _⟩ := hd.form
  obtain ⟨au, cu, hvu, _, hfu⟩ := hu.form
  obtain ⟨zl, hzl⟩ : ∃ z, z = D.length := ⟨_, rfl⟩
  obtain ⟨fl, hfl⟩ : ∃ z, z = F.length := ⟨_, rfl⟩
  rw [← hzl] at hvb
  rw [← hfl] at hvu hfu
  have HFU : Hid _ := hfu
  have HZL : Hid (zl = D.length) := hzl
  have HFL : Hid (fl = F.length) := hfl
  have hzl2 : zl ≤ 1048576 := by omega
  have hfl2 : fl ≤ 1048576 := by omega
  subst hvb hvu
  have hem := empty24
  obtain ⟨qe, hqe⟩ : ∃ x, x = pq D := ⟨_, rfl⟩
  have HQE : Hid (qe = pq D) := hqe
  clear hd hu hzl hfl hid b1 hfu hqe hD hF
  go_enter Try.func3, Try.ntmps3
  go_wp2_with fail
  refine (awake_any w).mono ?_
  rintro e w1 ⟨rfl, ho⟩
  have O1 : Hid (Only (fun _ => False) w w1) := ho
  clear ho
  go_wp2_with fail
  refine (own_any _ D w1 (HB.out.frame O1.out)).mono ?_
  rintro e w2 ⟨u2, rfl, hf2, ho⟩
  have oA : Only (fun _ => False) w2 (w2.alloc (.cells #[.int .u8 71, .int .u8 72] 5)) := (Only.refl _ w2).alloc _
  have o2 : Only (fun _ => False) w1 (w2.alloc (.cells #[.int .u8 71, .int .u8 72] 5)) := ho.trans oA (fun _ _ e => e)
  obtain ⟨a4, c4, w4, hr4, hf4, hg4⟩ := app_fresh (hf2.frame oA) (two_bytes w2) (by have := o2.size; omega) (by have := HZL.out; simp; omega)
  have o4 : Only (fun _ => False) w1 w4 := o2.trans hg4 (fun q hq e => by omega)
  rw [← HZL.out] at hr4 hf4
  obtain ⟨dl, hdl⟩ : ∃ x, x = zl + [71, 72].length := ⟨_, rfl⟩
  rw [← hdl] at hr4 hf4
  have hdl2 : dl = zl + 2 := hdl
  have hlF : (D ++ [71, 72]).length = dl := by rw [hdl2, HZL.out]; simp
  obtain ⟨gF, cF, hvF, hgF, hgF2⟩ := hf4.1.form (by simp)
  have hcF : dl ≤ cF := by
    obtain ⟨a, c, hv, hk, _⟩ := hf4.bytes.form
    rw [hvF] at hv
    simp only [Value.slice.injEq] at hv
    omega
  rw [hlF] at hvF
  simp only [Value.slice.injEq] at hvF
  obtain ⟨rfl, _, rfl⟩ := hvF
  have HF4 : Hid (Fresh w4 w1.heap.size (.slice (some ⟨gF, 0, none⟩) dl c4) (D ++ [71, 72])) := hf4
  have HR4 : Hid _ := hr4
  have O4 : Hid (Only (fun _ => False) w w4) := O1.out.trans o4 (fun _ _ e => e)
  have HS1 : Hid (w.heap.size ≤ w1.heap.size ∧ w1.heap.size ≤ w4.heap.size) := ⟨O1.out.size, o4.size⟩
  have HDL : Hid (dl = zl + 2) := hdl2
  obtain ⟨a5, c5, w5, g6, c6, w6, hr5, hr6, hf6, ho6, hc6⟩ := flags_two (HU.out.frame O4.out) (by have := HFL.out; omega)
  rw [← HFL.out] at hr5 hr6 hf6 hc6
  obtain ⟨ul, hul⟩ : ∃ x, x = fl + 2 := ⟨_, rfl⟩
  rw [← hul] at hr6 hf6 hc6
  have HR5 : Hid _ := hr5
  have HR6 : Hid _ := hr6
  have HF6 : Hid (FlagsAt w6 (.slice (some ⟨g6, 0, none⟩) ul c6) (F ++ [true, false])) := hf6
  have O6 : Hid (Only (fun _ => False) w w6) := O4.out.trans ho6 (fun _ _ e => e)
  have HUL : Hid (ul = fl + 2) := hul
  have HF46 : Hid (Fresh w6 w1.heap.size (.slice (some ⟨gF, 0, none⟩) dl c4) (D ++ [71, 72])) := Fresh.frame hf4 ho6
  have HS6 : Hid (w4.heap.size ≤ w6.heap.size) := ho6.size
  have HP4 : Hid (gF < w4.heap.size ∧ w1.heap.size ≤ gF) := by have := own_lt hf4 gF rfl; exact ⟨this.2, this.1⟩
  have HB6 : Hid (BytesAt w6 (.slice (some ⟨gF, 0, none⟩) zl c4) D) := by
    have := BytesAt.take (Fresh.bytes HF46.out) (n := zl) (by have := HDL.out; omega)
    have htk : (D ++ [71, 72]).take zl = D := by rw [HZL.out, List.take_left]
    rwa [htk] at this
  have HU6 : Hid (FlagsAt w6 (.slice (some ⟨g6, 0, none⟩) fl c6) F) := by
    have := FlagsAt.take hf6 (n := fl) (by omega)
    have htk : (F ++ [true, false]).take fl = F := by rw [HFL.out, List.take_left]
    rwa [htk] at this
  have f0 : (zl : Int) ≤ (c4 : Int) := by omega
  have f1 : (0 : Int) ≤ (zl : Int) := by omega
  have f2 : (zl : Int) < (dl : Int) := by omega
  have f3 : (zl : Int) + 1 < (dl : Int) := by omega
  have f4 : IntKind.i64.wrap ((zl : Int) + 1) = (zl : Int) + 1 := by rw [IntKind.wrap_i64]; omega
  have f5 : ((zl : Int) + 1).toNat = zl + 1 := by omega
  have f6 : (0 : Int) ≤ (zl : Int) + 1 := by omega
  have e0 : (fl : Int) ≤ (c6 : Int) := by omega
  have e1 : (0 : Int) ≤ (fl : Int) := by omega
  have e2 : (fl : Int) < (ul : Int) := by omega
  have e3 : (fl : Int) + 1 < (ul : Int) := by omega
  have e4 : IntKind.i64.wrap ((fl : Int) + 1) = (fl : Int) + 1 := by rw [IntKind.wrap_i64]; omega
  have e5 : ((fl : Int) + 1).toNat = fl + 1 := by omega
  have e6 : (0 : Int) ≤ (fl : Int) + 1 := by omega
  clear ho oA o2 hf2 hf4 hg4 hr4 o4 hdl hdl2 hgF hgF2 hlF hcF hr5 hr6 hf6 ho6 hc6 hul O1 O4 HF4
  go_wp2_with (at_builtin; first
    | (refine wpList_append_run rfl _ _ 23 rfl _ _ (.slice (some ⟨gF, 0, none⟩) dl c4) rfl rfl HR4.out ?_)
    | (refine wpList_append_run rfl _ _ 24 rfl _ _ (.slice a5 fl c5) rfl rfl HR5.out ?_)
    | (refine wpList_append_run rfl _ _ 24 rfl _ _ (.slice (some ⟨g6, 0, none⟩) ul c6) rfl rfl HR6.out ?_))
  clear HR4 HR5 HR6 hem
  refine (pack_form i _ D w6 hi HB6.out).mono ?_
  rintro e w7 ⟨a7, m7, k7, rfl, HX7⟩
  rw [← HQE.out]
  have ho7 : Only (fun _ => False) w6 w7 := HX7.out.2
  have O7 : Hid (Only (fun _ => False) w6 w7) := ho7
  have HB7 : Hid (BytesAt w7 (.slice (some ⟨gF, 0, none⟩) zl c4) D) := HB6.out.frame ho7
  have HF7 : Hid (Fresh w7 w6.heap.size (Value.slice a7 m7 k7) (pz i D)) := HX7.out.1
  clear ho7 HX7 HB6
  go_wp2_with fail
  refine (pack_form i _ D w7 hi HB7.out).mono ?_
  rintro e w8 ⟨a8, m8, k8, rfl, HX8⟩
  rw [← HQE.out]
  have ho8 : Only (fun _ => False) w7 w8 := HX8.out.2
  have O8 : Hid (Only (fun _ => False) w6 w8) := O7.out.trans ho8 (fun _ _ e => e)
  have HB8 : Hid (BytesAt w8 (.slice (some ⟨gF, 0, none⟩) zl c4) D) := HB7.out.frame ho8
  have HU8 : Hid (FlagsAt w8 (.slice (some ⟨g6, 0, none⟩) fl c6) F) := HU6.out.frame O8.out
  have HF78 : Hid (Fresh w8 w6.heap.size (Value.slice a7 m7 k7) (pz i D)) := Fresh.frame HF7.out ho8
  have HF8 : Hid (Fresh w8 w7.heap.size (Value.slice a8 m8 k8) (pz i D)) := HX8.out.1
  have HP7 : Hid (∀ b, (Value.slice a7 m7 k7).ownBlock = some b → w6.heap.size ≤ b ∧ b < w7.heap.size) := fun b hb => own_lt HF7.out b hb
  have HP8 : Hid (∀ b, (Value.slice a8 m8 k8).ownBlock = some b → w7.heap.size ≤ b ∧ b < w8.heap.size) := fun b hb => own_lt HF8.out b hb
  have HS8 : Hid (w6.heap.size ≤ w7.heap.size ∧ w7.heap.size ≤ w8.heap.size) := ⟨O7.out.size, ho8.size⟩
  clear ho8 HX8 HB7 HU6 HF7 O7
  go_wp2_with fail
  refine (first_form _ F n w8 HU8.out (by have := HFL.out; omega)).mono ?_
  rintro e w9 ⟨a9, m9, k9, q9, I9, rfl, HX9⟩
  have ho9 : Only (fun _ => False) w8 w9 := HX9.out.2
  have O9 : Hid (Only (fun _ => False) w6 w9) := O8.out.trans ho9 (fun _ _ e => e)
  have O89 : Hid (Only (fun _ => False) w8 w9) := ho9
  have HU9 : Hid (FlagsAt w9 (.slice (some ⟨g6, 0, none⟩) fl c6) F) := HU8.out.frame ho9
  have HI9 : Hid (FreshI w9 w8.heap.size (Value.slice a9 m9 k9) I9) := HX9.out.1
  clear ho9 HX9 HU8 O8
  go_wp2_with fail
  refine (first_form _ F n w9 HU9.out (by have := HFL.out; omega)).mono ?_
  rintro e w10 ⟨a10, m10, k10, q10, I10, rfl, HX10⟩
  have ho10 : Only (fun _ => False) w9 w10 := HX10.out.2
  have O10 : Hid (Only (fun _ => False) w6 w10) := O9.out.trans ho10 (fun _ _ e => e)
  have O810 : Hid (Only (fun _ => False) w8 w10) := O89.out.trans ho10 (fun _ _ e => e)
  have HI910 : Hid (FreshI w10 w8.heap.size (Value.slice a9 m9 k9) I9) := FreshI.frame HI9.out ho10
  have HI10 : Hid (FreshI w10 w9.heap.size (Value.slice a10 m10 k10) I10) := HX10.out.1
  have HSEP : Hid (∀ b, (Value.slice a9 m9 k9).ownBlock = some b → (Value.slice a10 m10 k10).ownBlock ≠ some b) := fun b h1 h2 => by
    have h3 := (HI9.out.1.lt b h1).2
    have h4 := (HI10.out.1.lt b h2).1
    omega
  have HB10 : Hid (BytesAt w10 (.slice (some ⟨gF, 0, none⟩) zl c4) D) := HB8.out.frame O810.out
  have HS10 : Hid (w8.heap.size ≤ w9.heap.size ∧ w9.heap.size ≤ w10.heap.size) := ⟨O89.out.size, ho10.size⟩
  clear ho10 HX10 HU9 O9 O89 HB8 HI9
  go_wp2_with fail
  refine (same_any _ _ D w10 HB10.out (HB.out.frame (O6.out.trans O10.out (fun _ _ e => e)))).mono ?_
  rintro e w11 ⟨rfl, ho11⟩
  have O11 : Hid (Only (fun _ => False) w6 w11) := O10.out.trans ho11 (fun _ _ e => e)
  have O811 : Hid (Only (fun _ => False) w8 w11) := O810.out.trans ho11 (fun _ _ e => e)
  have O1011 : Hid (Only (fun _ => False) w10 w11) := ho11
  have OW11 : Hid (Only (fun _ => False) w w11) := O6.out.trans O11.out (fun _ _ e => e)
  have hF11 := (Fresh.frame HF46.out O11.out).1
  have hlen11 : (D ++ [71, 72]).length = dl := by rw [HDL.out, HZL.out]; simp
  rw [hlen11] at hF11
  have y71 : w11.cell? ⟨gF, zl, none⟩ = some (.int .u8 71) := by
    have := hF11.cellAt zl (by omega)
    rw [this, BL_append, List.getElem?_append_right (by rw [BL_length, HZL.out]; omega), BL_length, HZL.out]
    simp [BL]
  have y72 : w11.cell? ⟨gF, zl + 1, none⟩ = some (.int .u8 72) := by
    have := hF11.cellAt (zl + 1) (by omega)
    rw [this, BL_append, List.getElem?_append_right (by rw [BL_length, HZL.out]; omega), BL_length, HZL.out]
    simp [BL]
  have HFC : Hid (∀ j, j < ul → w11.cell? ⟨g6, j, none⟩ = some (.bool ((F ++ [true, false]).getD j false))) := fun j hj => by
    obtain ⟨a, c, hv, _, hx⟩ := (FlagsAt.frame HF6.out O11.out).form
    have hlu : (F ++ [true, false]).length = ul := by rw [HUL.out, HFL.out]; simp
    obtain ⟨g, o, rfl, hcx⟩ := hx j (by omega)
    simp only [Value.slice.injEq, Option.some.injEq, Addr.mk.injEq, and_true] at hv
    obtain ⟨⟨rfl, rfl⟩, _⟩ := hv
    rwa [Nat.zero_add] at hcx
  have y81 : w11.cell? ⟨g6, fl, none⟩ = some (.bool true) := by
    rw [HFC.out fl (by omega)]
    simp [List.getD, HFL.out]
  have y82 : w11.cell? ⟨g6, fl + 1, none⟩ = some (.bool false) := by
    rw [HFC.out (fl + 1) (by omega)]
    simp [List.getD, HFL.out]
  have HFD : Hid (∀ j, j < fl → w11.cell? ⟨g6, j, none⟩ = some (.bool (F.getD j false))) := fun j hj => by
    rw [HFC.out j (by omega)]
    simp only [List.getD]
    rw [List.getElem?_append_left (by have := HFL.out; omega)]
  clear ho11 hF11 hlen11 HB10 O10 O810 HFC HF6 HUL
  go_wp2_with fail
  go_loopw [19] (fun t wr => ∃ k : Nat, k ≤ fl ∧ t = .int .i64 k ∧ Only (fun _ => False) w11 wr) (fun t _ => fl - (intOf t).toNat)
  case atStart => exact ⟨0, Nat.zero_le _, rfl, Only.refl _ _⟩
  case round =>
    obtain ⟨k, hk, rfl, ho⟩ := hrel
    by_cases hlt : k < fl
    · obtain ⟨gu, ou, rfl, x2⟩ := HFU.out k hlt
      have y2 := (OW11.out.trans ho (fun _ _ e => e)).cell x2 (fun e => e)
      have y1 := ho.cell (HFD.out k hlt) (fun e => e)
      obtain ⟨bv, hbv⟩ : ∃ b, b = F.getD k false := ⟨_, rfl⟩
      rw [← hbv] at y1 y2
      have k0 : (0 : Int) ≤ (k : Int) := Int.natCast_nonneg _
      have k1 : (k : Int) < (fl : Int) := by omega
      have k2 : (k : Int) < (ul : Int) := by omega
      have HO : Hid (Only (fun _ => False) w11 wr) := ho
      have he : (bv != bv) = false := by simp
      clear x2 ho hbv y71 y72 y81 y82
      go_wp2_with fail
      go_region_held3 (fun w' => w'.cell? ⟨g6, k, none⟩ = some (.bool bv) ∧ w'.cell? ⟨gu, ou + k, none⟩ = some (.bool bv)) (go_keep) (fail)
      go_wp2
      go_roundw
      case rel => exact ⟨k + 1, by omega, by go_num, HO.out.drew⟩
      case measure => simp [intOf]; omega
    · obtain rfl : k = fl := by omega
      have hq : (qe = 0 ∧ D.length ≤ 116) ∨ (qe = 11 ∧ 116 < D.length) := by
        rw [HQE.out]
        unfold pq
        by_cases h : D.length ≤ 116
        · exact .inl ⟨by rw [if_pos h], h⟩
        · exact .inr ⟨by rw [if_neg h], by omega⟩
      have B1 := BookAt.start (W := wr) (l := (Value.slice a9 m9 k9)) (m := (Value.slice a10 m10 k10)) (x := .slice (some ⟨gF, 0, none⟩) dl c4)
      have HB1 : Hid _ := B1
      have OB1 : Hid _ := B1.only
      have OWr : Hid (Only (fun _ => False) w wr) := OW11.out.trans ho (fun _ _ e => e)
      have ff : Hid (Fresh wr w1.heap.size (.slice (some ⟨gF, 0, none⟩) dl c4) (D ++ [71, 72])) := Fresh.frame HF46.out (O11.out.trans ho (fun _ _ e => e))
      have fx : Hid (Fresh wr w6.heap.size (Value.slice a7 m7 k7) (pz i D)) := Fresh.frame HF78.out (O811.out.trans ho (fun _ _ e => e))
      have fy : Hid (Fresh wr w7.heap.size (Value.slice a8 m8 k8) (pz i D)) := Fresh.frame HF8.out (O811.out.trans ho (fun _ _ e => e))
      have fi : Hid (FreshI wr w8.heap.size (Value.slice a9 m9 k9) I9) := FreshI.frame HI910.out (O1011.out.trans ho (fun _ _ e => e))
      have fj : Hid (FreshI wr w9.heap.size (Value.slice a10 m10 k10) I10) := FreshI.frame HI10.out (O1011.out.trans ho (fun _ _ e => e))
      have HSZ : Hid (w.heap.size ≤ w1.heap.size ∧ w1.heap.size ≤ w4.heap.size ∧ w4.heap.size ≤ w6.heap.size ∧ w6.heap.size ≤ w7.heap.size ∧ w7.heap.size ≤ w8.heap.size ∧ w8.heap.size ≤ w9.heap.size ∧ w9.heap.size ≤ w10.heap.size ∧ w10.heap.size ≤ wr.heap.size) :=
        ⟨HS1.out.1, HS1.out.2, HS6.out, HS8.out.1, HS8.out.2, HS10.out.1, HS10.out.2, (O1011.out.trans ho (fun _ _ e => e)).size⟩
      have HFB : Hid (∀ b, (Value.slice (some ⟨gF, 0, none⟩) dl c4).ownBlock = some b → w1.heap.size ≤ b ∧ b < w4.heap.size) := fun b hb => by
        have := HP4.out
        simp [Value.ownBlock] at hb
        omega
      have HLF : Hid ((D ++ [71, 72]).length = zl + 2) := by show _ = _; rw [List.length_append, ← HZL.out]; rfl
      clear B1 ho y71 y72 y81 y82 HF46 HF78 HF8 HI910 HI10 O11 O811 O1011 OW11 O6 HS1 HS6 HS8 HS10 HP4 HFD HFU HU HQE f0 f1 f2 f3 f4 f5 f6 e0 e1 e2 e3 e4 e5 e6
      rcases hq with ⟨rfl, h116⟩ | ⟨rfl, h116⟩
      · have H116 : Hid (D.length ≤ 116) := h116
        have fx' : Hid (Fresh wr w6.heap.size (Value.slice a7 m7 k7) (page i D)) := by have := fx.out; rwa [pz, if_pos h116] at this
        have fy' : Hid (Fresh wr w7.heap.size (Value.slice a8 m8 k8) (page i D)) := by have := fy.out; rwa [pz, if_pos h116] at this
        clear fx fy h116
        go_wp2_with fail
        refine (unpack_form (Value.slice a7 m7 k7) i D _ hi H116.out HZ.out (Fresh.bytes (Fresh.frame fx'.out OB1.out))).mono ?_
        rintro e w13 ⟨a13, m13, k13, rfl, HX13⟩
        have ho13 := HX13.out.2
        have O13 : Hid (Only (fun _ => False) wr w13) := OB1.out.trans ho13 (fun _ _ e => e)
        have HB13 : Hid _ := HB1.out.frame ho13
        have hs13 := OB1.out.size
        have FP13 : Hid (∃ B, Fresh w13 B (Value.slice a13 m13 k13) D ∧ wr.heap.size ≤ B) := ⟨_, HX13.out.1, hs13⟩
        clear ho13 HX13 HB1 OB1 hs13
        go_wp2_with fail
        refine (unpack_form (Value.slice a7 m7 k7) i D w13 hi H116.out HZ.out (Fresh.bytes (Fresh.frame fx'.out O13.out))).mono ?_
        rintro e w14 ⟨a14, m14, k14, rfl, HX14⟩
        have ho14 := HX14.out.2
        have O14 : Hid (Only (fun _ => False) wr w14) := O13.out.trans ho14 (fun _ _ e => e)
        have HB14 : Hid _ := HB13.out.frame ho14
        have HPp : Hid (∀ b, (Value.slice a13 m13 k13).ownBlock = some b → wr.heap.size ≤ b ∧ b < w13.heap.size) := fun b hb => by
          obtain ⟨B, hB, hle⟩ := FP13.out
          have := own_lt hB b hb
          omega
        have FP14 : Hid (∃ B, Fresh w14 B (Value.slice a13 m13 k13) D) := by
          obtain ⟨B, hB, _⟩ := FP13.out
          exact ⟨B, hB.frame ho14⟩
        have FQ14 : Hid (Fresh w14 w13.heap.size (Value.slice a14 m14 k14) D) := HX14.out.1
        have HPq : Hid (∀ b, (Value.slice a14 m14 k14).ownBlock = some b → w13.heap.size ≤ b ∧ b < w14.heap.size) := fun b hb => own_lt FQ14.out b hb
        have HS14 : Hid (wr.heap.size ≤ w13.heap.size ∧ w13.heap.size ≤ w14.heap.size) := ⟨O13.out.size, ho14.size⟩
        clear ho14 HX14 HB13 FP13 O13
        go_wp2_with fail
        refine (same_any (Value.slice a13 m13 k13) _ D w14 (by obtain ⟨B, hB⟩ := FP14.out; exact hB.bytes) (HB.out.frame (OWr.out.trans O14.out (fun _ _ e => e)))).mono ?_
        rintro e w15 ⟨rfl, ho15⟩
        have oA : Only (fun _ => False) w15 (w15.alloc (.cells #[(Value.slice a7 m7 k7), (Value.slice a8 m8 k8), (Value.slice a13 m13 k13), (Value.slice a14 m14 k14)] 23)) := (Only.refl _ w15).alloc _
        have oB : Only (fun _ => False) w14 (w15.alloc (.cells #[(Value.slice a7 m7 k7), (Value.slice a8 m8 k8), (Value.slice a13 m13 k13), (Value.slice a14 m14 k14)] 23)) := ho15.trans oA (fun _ _ e => e)
        have oC : Only (fun _ => False) wr (w15.alloc (.cells #[(Value.slice a7 m7 k7), (Value.slice a8 m8 k8), (Value.slice a13 m13 k13), (Value.slice a14 m14 k14)] 23)) := O14.out.trans oB (fun _ _ e => e)
        have B15 := HB14.out.frame ho15
        have x15 := B15.c2
        obtain ⟨Bp, hBp⟩ := FP14.out
        have one : ∀ x ∈ [(Value.slice a7 m7 k7), (Value.slice a8 m8 k8), (Value.slice a13 m13 k13), (Value.slice a14 m14 k14)], x.oneCell' = true := by
          intro x hx
          simp only [List.mem_cons, List.not_mem_nil, or_false] at hx
          rcases hx with rfl | rfl | rfl | rfl <;> rfl
        obtain ⟨aA, cA, wA, hrA, yA, fA, B17, keep⟩ := (B15.frame oA).more (row4 w15 (Value.slice a7 m7 k7) (Value.slice a8 m8 k8) (Value.slice a13 m13 k13) (Value.slice a14 m14 k14)) one (by simp)
        have hsz := HSZ.out
        have hs14 := HS14.out
        have lift : ∀ {B z zs}, Fresh (w15.alloc (.cells #[(Value.slice a7 m7 k7), (Value.slice a8 m8 k8), (Value.slice a13 m13 k13), (Value.slice a14 m14 k14)] 23)) B z zs → Fresh (wA.setCell ⟨wr.heap.size + 2, 2, none⟩ (.slice aA ([Value.slice (some ⟨gF, 0, none⟩) dl c4].length + [(Value.slice a7 m7 k7), (Value.slice a8 m8 k8), (Value.slice a13 m13 k13), (Value.slice a14 m14 k14)].length) cA)) B z zs := fun h => ⟨keep _ _ _ _ _ (by decide) (by decide) h.1, h.2⟩
        have g1 := lift (Fresh.frame ff.out oC)
        have g2 := lift (Fresh.frame fx'.out oC)
        have g3 := lift (Fresh.frame fy'.out oC)
        have g4 := lift (Fresh.frame hBp oB)
        have g5 := lift (Fresh.frame FQ14.out oB)
        have hi9 := FreshI.frame fi.out oC
        have hi10 := FreshI.frame fj.out oC
        have hfs := Fss.append (Fss.one g1 HFB.out) (Fss.append (Fss.one g2 HP7.out) (Fss.append (Fss.one g3 HP8.out) (Fss.append (Fss.one g4 HPp.out) (Fss.one g5 HPq.out) (fun b h1 h2 => by omega)) (fun b h1 h2 => by omega)) (fun b h1 h2 => by omega)) (fun b h1 h2 => by omega)
        have HAP := B17.apart (lo := w.heap.size) (B := w8.heap.size) (B' := w9.heap.size) (I := I9) (J := I10) hfs (by
          have hl := HLF.out
          have hpl := page_length i D H116.out
          have h1 := H116.out
          intro z hz
          simp only [List.mem_append, List.mem_cons, List.not_mem_nil, or_false] at hz
          rcases hz with rfl | rfl | rfl | rfl | rfl <;> omega) (fun b h => by omega) (by simp) ⟨keep _ _ _ _ _ (by decide) (by decide) hi9.1, hi9.2⟩ ⟨keep _ _ _ _ _ (by decide) (by decide) hi10.1, hi10.2⟩ HSEP.out (by omega) (by omega) (by omega)
        obtain ⟨qA, hqA⟩ : ∃ q, q = [Value.slice (some ⟨gF, 0, none⟩) dl c4].length + [(Value.slice a7 m7 k7), (Value.slice a8 m8 k8), (Value.slice a13 m13 k13), (Value.slice a14 m14 k14)].length := ⟨_, rfl⟩
        rw [← hqA] at hrA HAP
        have HRA : Hid _ := hrA
        have HAPH : Hid _ := HAP
        clear ho15 oA oB oC B15 hBp one hrA B17 keep hsz hs14 lift g1 g2 g3 g4 g5 hi9 hi10 hfs HAP hqA HB14 O14 FP14 FQ14 HPp HPq HS14 ff fx' fy' fi fj HSZ HFB HLF HZ HP7 HP8 HSEP HB
        go_wp2_with (at_builtin; refine wpList_append_run rfl _ _ 35 rfl _ _ (.slice aA qA cA) rfl rfl HRA.out ?_)
        refine (show Calls Try.prog 10 _ _ _ from HAPH.out).mono ?_
        rintro e w18 ⟨rfl, ho⟩
        have HE : Hid (Below w.heap.size w w18) := (OWr.out.trans ho (fun i hi e => by omega)).below (fun _ h => h.elim) (Nat.le_refl _)
        clear HAPH ho HRA yA fA x15 OWr
        go_wp2
        go_ret
        exact ⟨rfl, HE.out⟩
      · have hsz := HSZ.out
        have HAP := HB1.out.apart (lo := w.heap.size) (B := w8.heap.size) (B' := w9.heap.size) (I := I9) (J := I10) (Fss.one (Fresh.frame ff.out OB1.out) HFB.out) (by
          have hl := HLF.out
          intro z hz
          simp only [List.mem_cons, List.not_mem_nil, or_false] at hz
          subst hz
          omega) (fun b h => by omega) (by simp) (FreshI.frame fi.out OB1.out) (FreshI.frame fj.out OB1.out) HSEP.out (by omega) (by omega) (by omega)
        have HAPH : Hid _ := HAP
        clear HAP hsz h116 HB1 OB1 ff fx fy fi fj HSZ HFB HLF HZ HP7 HP8 HSEP HB
        go_wp2_with fail
        refine (show Calls Try.prog 10 _ _ _ from HAPH.out).mono ?_
        rintro e w18 ⟨rfl, ho⟩
        have HE : Hid (Below w.heap.size w w18) := (OWr.out.trans ho (fun i hi e => by omega)).below (fun _ h => h.elim) (Nat.le_refl _)
        clear HAPH ho OWr
        go_wp2
        go_ret
        exact ⟨rfl, HE.out⟩
end Go.Proofs.Ytdcflnfdaijpdab
