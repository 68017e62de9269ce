import Derived.Test.YtlcglapcmdpkfaaGreatTk
import Derived.Test.YtlcglapcmdpkfaaGreatD9
namespace Go.Proofs.YtlcglapcmdpkfaaGreat
open Go.RowKit
set_option linter.unusedSimpArgs false
set_option linter.unusedVariables false
theorem crashTo_no (kp : Nat → Bool) (torn : Int) (cut : Nat) (ws : List Wr) (s : Nat → Nat → Int) (i : Nat) (h : kp i = false) : crashTo kp torn cut ws s (i + 1) = crashTo kp torn cut ws s i := by
 simp only [crashTo]
 cases ws[i]? <;> simp [h]
theorem crashTo_yes (kp : Nat → Bool) (torn : Int) (cut : Nat) (ws : List Wr) (s : Nat → Nat → Int) (i : Nat) (x : Wr) (hx : ws[i]? = some x) (h : kp i = true) : crashTo kp torn cut ws s (i + 1) = upd (crashTo kp torn cut ws s i) x.at_ (mix (if (i : Int) = torn then cut else 32) x.aft (crashTo kp torn cut ws s i x.at_)) := by
 simp only [crashTo, hx, if_pos h]
theorem crashed_end {W : World} {B p S : Nat} {pv : Value} {d : DS} (h : DiskAt W B p S pv d) : DiskAt ((W.setCell ⟨p, 1, none⟩ (.slice none 0 0)).setCell ⟨p, 2, none⟩ (.int .i64 (-1))) B p S (.slice none 0 0) ⟨d.n, d.sec, [], -1⟩ := by
 have oP : Only (fun i => i = p) W ((W.setCell ⟨p, 1, none⟩ (.slice none 0 0)).setCell ⟨p, 2, none⟩ (.int .i64 (-1))) := ((Only.refl (fun i => i = p) W).setCell _ _ (fun _ => rfl)).setCell _ _ (fun _ => rfl)
 obtain ⟨c, hc⟩ := h.c0
 have hSp : S ≠ p := Ne.symm h.pS
 exact { pB := h.pB, SB := h.SB, pS := h.pS
         c0 := ⟨c, by rw [World.cell?_setCell_other _ _ _ _ (by simp), World.cell?_setCell_other _ _ _ _ (by simp)]; exact hc⟩
         c1 := by rw [World.cell?_setCell_other _ _ _ _ (by simp), World.cell?_setCell_same _ _ _ h.c1]
         c2 := World.cell?_setCell_same _ _ _ ((World.cell?_setCell_other _ _ _ _ (by simp)).trans h.c2)
         f1 := by simpa using h.f1
         f2 := by simpa using h.f2
         secs := fun i hi => ⟨oP.range (h.secs i hi).1 hSp, oP.there (h.secs i hi).2 hSp⟩
         own := World.ownsRow_nil _ _ _ _
         hp := by simp [Value.ownBlock]
         hS := by simp [Value.ownBlock]
         n1 := h.n1, n2 := h.n2
         at_ := fun x hx => by cases hx
         l1 := by simp
         l2 := by simp }
set_option maxRecDepth 100000 in
set_option maxHeartbeats 3000000 in
theorem crash_core (p S B kl kc cut cap : Nat) (ka pa : Option Addr) (kf : Nat → Bool) (torn : Int) (d : DS) (w : World) (h : DiskAt w B p S (.slice pa d.pend.length cap) d) (hcut : (cut : Int) ≤ 32) (hkl : kl ≤ maxLen)
  (hka : ∀ i, i < kl → ∃ kb ko, ka = some ⟨kb, ko, none⟩ ∧ kb ≠ S ∧ w.cell? ⟨kb, ko + i, none⟩ = some (.bool (kf i)))
  (hpa : ∀ i (hi : i < d.pend.length), ∃ g, pa = some ⟨g, 0, none⟩ ∧ g ≠ S ∧ w.rangeAt g (i * 65) (d.pend[i]).cells) :
  Calls Tryz.prog 36 #[.pointer (some ⟨p, 0, none⟩), .slice ka kl kc, .int .i64 torn, .int .i64 cut] w fun e w' => e = .returned (.int .i64 0) ∧
   DiskAt w' B p S (.slice none 0 0) ⟨d.n, crashTo (fun i => decide (i < kl) && kf i) torn cut d.pend (undoW d.pend d.sec) d.pend.length, [], -1⟩ ∧ Only (fun i => i = p ∨ i = S) w w' := by
 have hl := h.len
 have hcut0 : (0 : Int) ≤ (cut : Int) := Int.natCast_nonneg _
 have hc1 : ¬ (cut : Int) < 0 := by omega
 have hc2 : ¬ (32 : Int) < (cut : Int) := by omega
 have hml := hl
 unfold maxLen at hml hkl
 go_enter Tryz.func36, Tryz.ntmps36
 go_wp2_with fail
 refine (takeback_any p S B _ d w h hl).mono ?_
 rintro e w1 ⟨rfl, d1, o1⟩
 have y1 := d1.c1
 have HD : Hid (DiskAt w1 B p S (.slice pa d.pend.length cap) { d with sec := undoW d.pend d.sec }) := d1
 have HO1 : Hid (Only (fun i => i = S) w w1) := o1
 clear d1 o1
 go_wp2_with fail
 go_loopw [29] (fun t wr => ∃ i : Nat, i ≤ d.pend.length ∧ t = .int .i64 i ∧ DiskAt wr B p S (.slice pa d.pend.length cap) { d with sec := crashTo (fun i => decide (i < kl) && kf i) torn cut d.pend (undoW d.pend d.sec) i } ∧ Only (fun i => i = S) w wr) (fun t _ => d.pend.length - (intOf t).toNat)
 case atStart => exact ⟨0, Nat.zero_le _, rfl, HD.out, HO1.out⟩
 case round =>
  obtain ⟨i, hi, rfl, dr, ho⟩ := hrel
  by_cases hlt : i < d.pend.length
  ·obtain ⟨g, rfl, hgS, hrg⟩ := hpa i hlt
   have hr1 := ho.range hrg hgS
   obtain ⟨x, hx⟩ : ∃ x, x = d.pend[i] := ⟨_, rfl⟩
   have hxg : d.pend[i]? = some x := by rw [hx]; exact List.getElem?_eq_getElem hlt
   have hat : x.at_ < d.n := h.at_ x (by rw [hx]; exact List.getElem_mem _)
   rw [← hx] at hr1
   have hi71 : (Tryz.prog.info? 119).map (·.size) = some x.cells.length := by rw [size71]; simp [Wr.cells, wrL_length]
   have hi71a : (Tryz.prog.info? 119).map (·.size) = some x.cells.toArray.size := by rw [size71]; simp [Wr.cells, wrL_length]
   have hone : x.cells.toArray.all (·.oneCell') = true := all_oneCell_toArray (wrL_one _ _ _)
   have hs0 : (wrL 0 (fun _ => 0) (fun _ => 0)).toArray.size = x.cells.toArray.size := by simp [Wr.cells, wrL_length]
   have hu71 := Tryz.underlying119
   have i0 : (0 : Int) ≤ (i : Int) := Int.natCast_nonneg _
   have i1 : (i : Int) < (d.pend.length : Int) := by omega
   -- the world behind the copy of the write
   obtain ⟨wx, hwx⟩ : ∃ q, q = wr.alloc (.cells x.cells.toArray 119) := ⟨_, rfl⟩
   have oX : Only (fun _ => False) wr wx := by rw [hwx]; exact (Only.refl _ wr).alloc _
   have dX := dr.frame oX (fun _ _ e => e)
   obtain ⟨Bx, hBx⟩ : ∃ q, q = wr.heap.size := ⟨_, rfl⟩
   have bX : wx.heap[Bx]? = some (.cells x.cells.toArray 119 (0, 0)) := by rw [hwx, hBx]; exact heap_alloc_new wr _
   have hXS : Bx ≠ S := by have := (dr.lt S (.inr (.inl rfl))).2; omega
   have HX : Hid (d.pend[i]? = some x) := hxg
   have HO : Hid (Only (fun i => i = S) w wr) := ho
   have HOX : Hid (Only (fun _ => False) wr wx) := oX
   have HW : Hid (wx = wr.alloc (.cells x.cells.toArray 119)) := hwx
   have HB : Hid (Bx = wr.heap.size) := hBx
   have HDX : Hid (DiskAt wx B p S (.slice (some ⟨g, 0, none⟩) d.pend.length cap) { d with sec := crashTo (fun i => decide (i < kl) && kf i) torn cut d.pend (undoW d.pend d.sec) i }) := dX
   clear hx hxg hpa hrg dr hwx hBx dX y1 HD oX
   by_cases hk : i < kl
   ·obtain ⟨kb, ko, rfl, hkS, hkc⟩ := hka i hk
    have hkx : wx.cell? ⟨kb, ko + i, none⟩ = some (.bool (kf i)) := HOX.out.cell (HO.out.cell hkc hkS) (fun e => e)
    have hk1 : ¬ (kl : Int) ≤ (i : Int) := by omega
    have hk2 : (i : Int) < (kl : Int) := by omega
    clear hka hkc ho
    cases hkf : kf i with
    | false =>
      rw [hkf] at hkx
      go_wp2_with (first | (refine wpList_load_mid rfl 119 _ rfl g (i * 65) rfl x.cells _ hr1 hu71 rfl hi71 ?_) | (refine wpList_value rfl rfl (alloc71 _) ?_) | (refine wpList_storeNew rfl 119 _ _ rfl wr _ x.cells.toArray rfl rfl hi71a hs0 hone ?_; rw [← HW.out, ← HB.out]))
      go_roundw
      case rel => exact ⟨i + 1, by omega, by go_num, by rw [crashTo_no _ _ _ _ _ _ (by simp [hkf])]; exact HDX.out, HO.out.trans HOX.out (fun _ _ e => e.elim)⟩
      case measure => simp [intOf]; omega
    | true =>
      rw [hkf] at hkx
      have hkp : (decide (i < kl) && kf i) = true := by simp [hk, hkf]
      have HKP : Hid ((decide (i < kl) && kf i) = true) := hkp
      clear hkp hkf
      have dX := HDX.out
      obtain ⟨c, y0⟩ := dX.c0
      simp only at y0
      have yX : wx.cell? ⟨Bx, 0, none⟩ = some (.int .i64 x.at_) := by rw [cell_of_row _ _ _ _ _ _ bX]; rfl
      have k0 : (0 : Int) ≤ (x.at_ : Int) := Int.natCast_nonneg _
      have k1 : (x.at_ : Int) < (d.n : Int) := by omega
      by_cases htn : (i : Int) = torn
      ·subst htn
       obtain ⟨cs, hcs⟩ : ∃ q, q = (secL x.aft).take cut := ⟨_, rfl⟩
       have hcl : cs.length = cut := by rw [hcs, List.length_take, secL_length]; omega
       have hn32 : cut ≤ 32 := by omega
       have hmin : cs.length = Nat.min cut 32 := by rw [hcl]; exact (Nat.min_eq_left hn32).symm
       have hcf : ∀ j, j < cut → cs[j]? = some (.int .u8 (x.aft j)) := fun j hj => by rw [hcs, List.getElem?_take_of_lt hj, secL_get _ _ (by omega)]
       have ocs : ∀ v ∈ cs, v.oneCell' = true := fun v hv => secL_one x.aft v (List.mem_of_mem_take (by rw [← hcs]; exact hv))
       have rX : wx.rangeAt Bx 33 cs := fun j v hv => by
        have hj : j < cut := by have := (List.getElem?_eq_some_iff.1 hv).1; omega
        rw [hcf j hj] at hv
        rw [cell_of_row _ _ _ _ _ _ bX, ← hv]
        simp only [Wr.cells, wrL, List.getElem?_toArray]
        rw [show 33 + j = (32 + j) + 1 by omega, List.getElem?_cons_succ, List.getElem?_append_right (by rw [secL_length]; omega), secL_length, show 32 + j - 32 = j by omega, secL_get _ _ (by omega)]
       have tS : wx.there S (x.at_ * 32) cs.length := fun j hj => (dX.secs x.at_ hat).2 j (by omega)
       clear hcs
       go_wp2_with (first | (refine wpList_load_mid rfl 119 _ rfl g (i * 65) rfl x.cells _ hr1 hu71 rfl hi71 ?_) | (refine wpList_value rfl rfl (alloc71 _) ?_) | (refine wpList_storeNew rfl 119 _ _ rfl wr _ x.cells.toArray rfl rfl hi71a hs0 hone ?_; rw [← HW.out, ← HB.out]))
       refine wp_region_noPanic ?_
       refine wp_region_held_drew (S := fun w' => w'.cell? ⟨p, 0, none⟩ = some (.slice (some ⟨S, 0, none⟩) d.n c) ∧ w'.cell? ⟨Bx, 0, none⟩ = some (.int .i64 x.at_)) (by kernel_rfl) ⟨by simpa using y0, by simpa using yX⟩ (fun hHeld => ?_)
       refine t8 (i := 0) (v := .pointer (some ⟨p, 0, none⟩)) rfl hHeld ?_
       simp only [Act.put, z9]
       refine t8 (i := 1) (v := .pointer (some ⟨p, 0, none⟩)) rfl hHeld ?_
       simp only [Act.put, z9]
       refine t8 (i := 2) (v := .pointer (some ⟨p, 0, none⟩)) rfl hHeld ?_
       simp only [Act.put, z9]
       refine t8 (i := 3) (v := .slice (some ⟨S, 0, none⟩) d.n c) rfl hHeld ?_
       simp only [Act.put, z9]
       refine t8 (i := 4) (v := .pointer (some ⟨Bx, 0, none⟩)) rfl hHeld ?_
       simp only [Act.put, z9]
       refine t8 (i := 5) (v := .int .i64 x.at_) rfl hHeld ?_
       simp only [Act.put, z9]
       refine t8 (i := 6) (v := .pointer (some ⟨S, x.at_ * 32, none⟩)) rfl hHeld ?_
       simp only [Act.put, z9]
       refine t8 (i := 7) (v := .slice (some ⟨S, x.at_ * 32, none⟩) 32 32) rfl hHeld ?_
       simp only [Act.put, z9]
       refine t8 (i := 8) (v := .pointer (some ⟨Bx, 33, none⟩)) rfl hHeld ?_
       simp only [Act.put, z9]
       refine t8 (i := 9) (v := .int .i64 cut) rfl hHeld ?_
       simp only [Act.put, z9]
       refine t8 (i := 10) (v := .slice (some ⟨Bx, 33, none⟩) cut 32) rfl hHeld ?_
       simp only [Act.put, z9]
       refine wpAnyH_ready (rs := [11]) (by kernel_rfl) (by simp) ?_
       refine AllReadyH.cons rfl (fun K hK => ?_) AllReadyH.nil
       rw [if_pos (by rfl)]
       refine wp_copy_mid (.tmp 56) (.tmp 59) 37 37 rfl 5 Tryz.underlying37 size5 S (x.at_ * 32) 32 32 ⟨Bx, 33, none⟩ cut 32 cs (by rfl) (by rfl) (by simpa using tS) hmin (fun j v hv => by rw [Addr.add_mid]; simpa using rX j v hv) ocs ?_
       have oS : Only (fun i => i = S) wx (wx.drew.setCells S (x.at_ * 32) cs) := (Only.refl _ wx).drew.setCells _ _ _ (fun _ => rfl)
       refine hK.out _ _ ⟨oS.cell y0 h.pS, oS.cell yX hXS⟩ (fun hHeld => ?_)
       clear hK K hHeld
       simp only [Act.put, z9]
       refine wpAnyH_done (by kernel_rfl) ?_ _
       refine NoPanic.normal ?_
       obtain ⟨w5, hw5⟩ : ∃ q, q = wx.drew.setCells S (x.at_ * 32) cs := ⟨_, rfl⟩
       have d5 := (dX.drew).part x.at_ cut x.aft cs hcl hn32 hcf hat
       rw [← hw5] at oS d5 ⊢
       have D5 : Hid _ := d5
       have OS : Hid _ := oS
       clear hw5 d5 oS rX tS y0 yX dX
       go_wp2
       go_roundw
       case rel => exact ⟨i + 1, by omega, by go_num, by rw [crashTo_yes _ _ _ _ _ _ x HX.out HKP.out, if_pos rfl]; exact D5.out, (HO.out.trans HOX.out (fun _ _ e => e.elim)).trans OS.out (fun _ _ e => e)⟩
       case measure => simp [intOf]; omega
      ·have htb : ((i : Int) == torn) = false := by simpa using htn
       obtain ⟨cs, hcs⟩ : ∃ q, q = (secL x.aft).take 32 := ⟨_, rfl⟩
       have hcl : cs.length = 32 := by rw [hcs, List.length_take, secL_length]; omega
       have hn32 : 32 ≤ 32 := by omega
       have hmin : cs.length = Nat.min 32 32 := by rw [hcl]; exact (Nat.min_eq_left hn32).symm
       have hcf : ∀ j, j < 32 → cs[j]? = some (.int .u8 (x.aft j)) := fun j hj => by rw [hcs, List.getElem?_take_of_lt hj, secL_get _ _ (by omega)]
       have ocs : ∀ v ∈ cs, v.oneCell' = true := fun v hv => secL_one x.aft v (List.mem_of_mem_take (by rw [← hcs]; exact hv))
       have rX : wx.rangeAt Bx 33 cs := fun j v hv => by
        have hj : j < 32 := by have := (List.getElem?_eq_some_iff.1 hv).1; omega
        rw [hcf j hj] at hv
        rw [cell_of_row _ _ _ _ _ _ bX, ← hv]
        simp only [Wr.cells, wrL, List.getElem?_toArray]
        rw [show 33 + j = (32 + j) + 1 by omega, List.getElem?_cons_succ, List.getElem?_append_right (by rw [secL_length]; omega), secL_length, show 32 + j - 32 = j by omega, secL_get _ _ (by omega)]
       have tS : wx.there S (x.at_ * 32) cs.length := fun j hj => (dX.secs x.at_ hat).2 j (by omega)
       clear hcs
       have HT : Hid (¬ (i : Int) = torn) := htn
       clear htn
       go_wp2_with (first | (refine wpList_load_mid rfl 119 _ rfl g (i * 65) rfl x.cells _ hr1 hu71 rfl hi71 ?_) | (refine wpList_value rfl rfl (alloc71 _) ?_) | (refine wpList_storeNew rfl 119 _ _ rfl wr _ x.cells.toArray rfl rfl hi71a hs0 hone ?_; rw [← HW.out, ← HB.out]))
       refine wp_region_noPanic ?_
       refine wp_region_held_drew (S := fun w' => w'.cell? ⟨p, 0, none⟩ = some (.slice (some ⟨S, 0, none⟩) d.n c) ∧ w'.cell? ⟨Bx, 0, none⟩ = some (.int .i64 x.at_)) (by kernel_rfl) ⟨by simpa using y0, by simpa using yX⟩ (fun hHeld => ?_)
       refine t8 (i := 0) (v := .pointer (some ⟨p, 0, none⟩)) rfl hHeld ?_
       simp only [Act.put, z9]
       refine t8 (i := 1) (v := .pointer (some ⟨p, 0, none⟩)) rfl hHeld ?_
       simp only [Act.put, z9]
       refine t8 (i := 2) (v := .pointer (some ⟨p, 0, none⟩)) rfl hHeld ?_
       simp only [Act.put, z9]
       refine t8 (i := 3) (v := .slice (some ⟨S, 0, none⟩) d.n c) rfl hHeld ?_
       simp only [Act.put, z9]
       refine t8 (i := 4) (v := .pointer (some ⟨Bx, 0, none⟩)) rfl hHeld ?_
       simp only [Act.put, z9]
       refine t8 (i := 5) (v := .int .i64 x.at_) rfl hHeld ?_
       simp only [Act.put, z9]
       refine t8 (i := 6) (v := .pointer (some ⟨S, x.at_ * 32, none⟩)) rfl hHeld ?_
       simp only [Act.put, z9]
       refine t8 (i := 7) (v := .slice (some ⟨S, x.at_ * 32, none⟩) 32 32) rfl hHeld ?_
       simp only [Act.put, z9]
       refine t8 (i := 8) (v := .pointer (some ⟨Bx, 33, none⟩)) rfl hHeld ?_
       simp only [Act.put, z9]
       refine t8 (i := 9) (v := .int .i64 32) rfl hHeld ?_
       simp only [Act.put, z9]
       refine t8 (i := 10) (v := .slice (some ⟨Bx, 33, none⟩) 32 32) rfl hHeld ?_
       simp only [Act.put, z9]
       refine wpAnyH_ready (rs := [11]) (by kernel_rfl) (by simp) ?_
       refine AllReadyH.cons rfl (fun K hK => ?_) AllReadyH.nil
       rw [if_pos (by rfl)]
       refine wp_copy_mid (.tmp 56) (.tmp 59) 37 37 rfl 5 Tryz.underlying37 size5 S (x.at_ * 32) 32 32 ⟨Bx, 33, none⟩ 32 32 cs (by rfl) (by rfl) (by simpa using tS) hmin (fun j v hv => by rw [Addr.add_mid]; simpa using rX j v hv) ocs ?_
       have oS : Only (fun i => i = S) wx (wx.drew.setCells S (x.at_ * 32) cs) := (Only.refl _ wx).drew.setCells _ _ _ (fun _ => rfl)
       refine hK.out _ _ ⟨oS.cell y0 h.pS, oS.cell yX hXS⟩ (fun hHeld => ?_)
       clear hK K hHeld
       simp only [Act.put, z9]
       refine wpAnyH_done (by kernel_rfl) ?_ _
       refine NoPanic.normal ?_
       obtain ⟨w5, hw5⟩ : ∃ q, q = wx.drew.setCells S (x.at_ * 32) cs := ⟨_, rfl⟩
       have d5 := (dX.drew).part x.at_ 32 x.aft cs hcl hn32 hcf hat
       rw [← hw5] at oS d5 ⊢
       have D5 : Hid _ := d5
       have OS : Hid _ := oS
       clear hw5 d5 oS rX tS y0 yX dX
       go_wp2
       go_roundw
       case rel => exact ⟨i + 1, by omega, by go_num, by rw [crashTo_yes _ _ _ _ _ _ x HX.out HKP.out, if_neg HT.out]; exact D5.out, (HO.out.trans HOX.out (fun _ _ e => e.elim)).trans OS.out (fun _ _ e => e)⟩
       case measure => simp [intOf]; omega
   ·have hk1 : (kl : Int) ≤ (i : Int) := by omega
    clear hka ho
    go_wp2_with (first | (refine wpList_load_mid rfl 119 _ rfl g (i * 65) rfl x.cells _ hr1 hu71 rfl hi71 ?_) | (refine wpList_value rfl rfl (alloc71 _) ?_) | (refine wpList_storeNew rfl 119 _ _ rfl wr _ x.cells.toArray rfl rfl hi71a hs0 hone ?_; rw [← HW.out, ← HB.out]))
    go_roundw
    case rel => exact ⟨i + 1, by omega, by go_num, by rw [crashTo_no _ _ _ _ _ _ (by simp [hk])]; exact HDX.out, HO.out.trans HOX.out (fun _ _ e => e.elim)⟩
    case measure => simp [intOf]; omega
  ·obtain rfl : i = d.pend.length := by omega
   have z1 := dr.c1
   have z2 := dr.c2
   have zf1 := dr.f1
   have zf2 := dr.f2
   simp only at z2
   have HDR : Hid _ := dr
   have HO : Hid (Only (fun i => i = S) w wr) := ho
   clear dr ho hka hpa y1 HD
   go_wp2
   go_ret
   refine ⟨rfl, ?_, ?_⟩
   ·exact crashed_end HDR.out
   ·exact ((HO.out.mono (fun _ _ e => .inr e)).setCell _ _ (fun _ => .inl rfl)).setCell _ _ (fun _ => .inl rfl)
def DFlags (w : World) (v : Value) (kl : Nat) (kf : Nat → Bool) (S : Nat) : Prop := ∃ ka kc, v = .slice ka kl kc ∧ kl ≤ maxLen ∧ ∀ i, i < kl → ∃ kb ko, ka = some ⟨kb, ko, none⟩ ∧ kb ≠ S ∧ w.cell? ⟨kb, ko + i, none⟩ = some (.bool (kf i))
theorem crash_any (p S B kl cut : Nat) (pv kv : Value) (kf : Nat → Bool) (torn : Int) (d : DS) (w : World) (h : DiskAt w B p S pv d) (hcut : cut ≤ 32) (hk : DFlags w kv kl kf S) :
  Calls Tryz.prog 36 #[.pointer (some ⟨p, 0, none⟩), kv, .int .i64 torn, .int .i64 cut] w fun e w' => e = .returned (.int .i64 0) ∧
   DiskAt w' B p S (.slice none 0 0) ⟨d.n, crashTo (fun i => decide (i < kl) && kf i) torn cut d.pend (undoW d.pend d.sec) d.pend.length, [], -1⟩ ∧ Only (fun i => i = p ∨ i = S) w w' := by
 obtain ⟨ka, kc, rfl, hkl, hka⟩ := hk
 rcases h.form with ⟨h1, h2⟩ | ⟨g, cap, h1, h2⟩
 ·have e : Value.slice none 0 0 = .slice none d.pend.length 0 := by rw [h2]; rfl
  rw [h1, e] at h
  exact crash_core p S B kl kc cut 0 ka none kf torn d w h (by omega) hkl hka (fun i hi => by rw [h2] at hi; simp at hi)
 ·have hr := fun i hi => h.ranges h1 i hi
  have hS := h.hS
  rw [h1] at h
  exact crash_core p S B kl kc cut cap ka _ kf torn d w h (by omega) hkl hka (fun i hi => ⟨g, rfl, fun e => hS (by rw [h2, e]), hr i hi⟩)
set_option maxHeartbeats 400000 in
theorem crash_bad (p : Nat) (kv : Value) (torn cut : Int) (w : World) (h : cut < 0 ∨ 32 < cut) :
  Calls Tryz.prog 36 #[.pointer (some ⟨p, 0, none⟩), kv, .int .i64 torn, .int .i64 cut] w fun e w' => e = .returned (.int .i64 2) ∧ w' = w := by
 rcases h with h | h
 ·go_enter Tryz.func36, Tryz.ntmps36
  go_wp2
  go_ret
  exact ⟨rfl, rfl⟩
 ·have h' : ¬ cut < 0 := by omega
  go_enter Tryz.func36, Tryz.ntmps36
  go_wp2
  go_ret
  exact ⟨rfl, rfl⟩
end Go.Proofs.YtlcglapcmdpkfaaGreat
