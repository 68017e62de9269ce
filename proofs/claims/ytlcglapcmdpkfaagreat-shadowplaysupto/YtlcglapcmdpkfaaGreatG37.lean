import Derived.Test.YtlcglapcmdpkfaaGreatTk
import Derived.Test.YtlcglapcmdpkfaaGreatG36
import Derived.Deep.CutRange
import Derived.BigQuiet
import Derived.OpenShut
import Derived.Deep.RegionHeld3
namespace Go.Proofs.YtlcglapcmdpkfaaGreat
open Go.RowKit Go.Maps
set_option linter.unusedSimpArgs false
set_option linter.unusedVariables false
theorem wpAnyH_weak {P : Program} {md : Region.Mode} {ops : Array Oper} {Q : Exit → Act → World → Prop} {S S' : World → Prop} (h : ∀ w, S' w → S w) : ∀ (fuel : Nat) (listed : Array Bool) (a : Act) (w : World), wpAnyH P md ops Q S' fuel listed a w → wpAnyH P md ops Q S fuel listed a w
 | 0, _, _, _, g => g
 | fuel + 1, _, _, _, g => ⟨g.1, fun i hi => wpOp_mono (fun a' w' g' => ⟨h w' g'.1, wpAnyH_weak h fuel _ a' w' g'.2⟩) (g.2 i hi)⟩
theorem PlOk.pend {w : World} {B P p S q K n m : Nat} (h : PlOk w B P p S q K n m) : ∃ a k c a' c', w.cell? ⟨p, 1, none⟩ = some (.slice a k c) ∧ w.cell? ⟨q, 2, none⟩ = some (.slice a' k c') := by
 obtain ⟨pv, d, rv, rs, sv, rp, hc, hk, hf⟩ := h
 obtain ⟨a, c, rfl⟩ := ownsRow_slice hc.dk.own
 obtain ⟨a', c', rfl⟩ := ownsRow_slice hc.rf.own
 have e : rs.length = d.pend.length := by rw [← hc.rf.tie]; simp
 rw [e] at hc
 exact ⟨a, _, c, a', c', hc.dk.c1, hc.rf.c2⟩
set_option maxRecDepth 100000 in
set_option maxHeartbeats 4000000 in
theorem step_commit {w0 w : World} {B P p S q K N m : Nat} {s r : Nat} {pv d rv rs} (hc : PlC w B P p S q K pv d rv rs d (.pointer (some ⟨s, 0, none⟩)) (.pointer (some ⟨r, 0, none⟩))) (h0 : Only (fun _ => False) w0 w) (hB : B = w0.heap.size) (hops : OpsOk w B P p S q K N (m + 4000) w.heap.size s r) (i n cut : Int) (vb vk : Value) :
  Calls Tryz.prog 7 #[.pointer (some ⟨P, 0, none⟩), .agg #[.int .i64 3, .int .i64 i, .int .i64 n, .int .i64 cut, vb, vk]] w fun e w' => e = .returned (.bool true) ∧ Hid (PlOk w' B P p S q K N (m + 4000) ∧ Only (fun k => B ≤ k) w w') := by
 obtain ⟨wx, hwx⟩ : ∃ z, z = w.alloc (.cells #[.int .i64 3, .int .i64 i, .int .i64 n, .int .i64 cut, vb, vk] 40) := ⟨_, rfl⟩
 obtain ⟨Bx, hBx⟩ : ∃ z, z = w.heap.size := ⟨_, rfl⟩
 have oX : Only (fun _ => False) w wx := by rw [hwx]; exact (Only.refl _ w).alloc _
 have bX : wx.heap[Bx]? = some (.cells #[.int .i64 3, .int .i64 i, .int .i64 n, .int .i64 cut, vb, vk] 40 (0, 0)) := by rw [hwx, hBx]; exact heap_alloc_new w _
 have x0 : wx.cell? ⟨Bx, 0, none⟩ = some (.int .i64 3) := by rw [cell_of_row _ _ _ _ _ _ bX]; rfl
 have x1 : wx.cell? ⟨Bx, 1, none⟩ = some (.int .i64 i) := by rw [cell_of_row _ _ _ _ _ _ bX]; rfl
 have x2 : wx.cell? ⟨Bx, 2, none⟩ = some (.int .i64 n) := by rw [cell_of_row _ _ _ _ _ _ bX]; rfl
 have x3 : wx.cell? ⟨Bx, 3, none⟩ = some (.int .i64 cut) := by rw [cell_of_row _ _ _ _ _ _ bX]; rfl
 have x4 : wx.cell? ⟨Bx, 4, none⟩ = some (vb) := by rw [cell_of_row _ _ _ _ _ _ bX]; rfl
 have x5 : wx.cell? ⟨Bx, 5, none⟩ = some (vk) := by rw [cell_of_row _ _ _ _ _ _ bX]; rfl
 have hcx : PlC wx B P p S q K pv d rv rs d (.pointer (some ⟨s, 0, none⟩)) (.pointer (some ⟨r, 0, none⟩)) := hc.still oX
 have z0 : wx.cell? ⟨P, 0, none⟩ = some (.pointer (some ⟨p, 0, none⟩)) := hcx.pc 0 _ rfl
 have z1 : wx.cell? ⟨P, 1, none⟩ = some (.pointer (some ⟨q, 0, none⟩)) := hcx.pc 1 _ rfl
 have z2 : wx.cell? ⟨P, 2, none⟩ = some (.pointer (some ⟨s, 0, none⟩)) := hcx.pc 2 _ rfl
 have z3 : wx.cell? ⟨P, 3, none⟩ = some (.pointer (some ⟨r, 0, none⟩)) := hcx.pc 3 _ rfl
 have O0 : Hid (Only (fun _ => False) w0 wx) := h0.trans oX (fun _ _ g => g)
 have OX : Hid (Only (fun _ => False) w wx) := oX
 have HW : Hid (wx = w.alloc (.cells #[.int .i64 3, .int .i64 i, .int .i64 n, .int .i64 cut, vb, vk] 40)) := hwx
 have HX : Hid (Bx = w.heap.size) := hBx
 have oD : Only (fun _ => False) w wx.drew := oX.drew
 clear hwx bX hc
 have HC0 := hops.commit wx.drew oD
 rw [← hBx] at HC0
 obtain ⟨Y, HC⟩ := HC0
 have HC1 : Hid _ := HC
 clear HC
 clear hcx oX oD h0 hB hops hBx x1 x2 x3 x4 x5
 go_enter Tryz.func7, Tryz.ntmps7
 go_upto_region 3 with fail
 rw [← HW.out, ← HX.out]
 go_wp2_with fail
 refine wp_region_held_drew (S := (fun w' => w'.cell? ⟨P, 0, none⟩ = some (.pointer (some ⟨p, 0, none⟩)) ∧ w'.cell? ⟨P, 1, none⟩ = some (.pointer (some ⟨q, 0, none⟩)) ∧ w'.cell? ⟨P, 2, none⟩ = some (.pointer (some ⟨s, 0, none⟩)) ∧ w'.cell? ⟨P, 3, none⟩ = some (.pointer (some ⟨r, 0, none⟩)))) (by kernel_rfl) ⟨z0, z1, z2, z3⟩ (fun hHeld => ?_)
 refine t8 (i := 0) (v := .pointer (some ⟨P, 0, none⟩)) rfl hHeld ?_
 simp only [Act.put, z9]
 refine t8 (i := 1) (v := .pointer (some ⟨P, 0, none⟩)) rfl hHeld ?_
 simp only [Act.put, z9]
 refine t8 (i := 2) (v := .pointer (some ⟨P, 2, none⟩)) rfl hHeld ?_
 simp only [Act.put, z9]
 refine t8 (i := 3) (v := .pointer (some ⟨s, 0, none⟩)) rfl hHeld ?_ (Or.inl ⟨by rfl, fun wx hSw => by have hc := hSw.2.2.1; go_simp⟩)
 simp only [Act.put, z9]
 refine t8 (i := 5) (v := .pointer (some ⟨P, 0, none⟩)) rfl hHeld ?_
 simp only [Act.put, z9]
 refine t8 (i := 6) (v := .pointer (some ⟨P, 0, none⟩)) rfl hHeld ?_
 simp only [Act.put, z9]
 refine t8 (i := 7) (v := .pointer (some ⟨P, 3, none⟩)) rfl hHeld ?_
 simp only [Act.put, z9]
 refine t8 (i := 8) (v := .pointer (some ⟨r, 0, none⟩)) rfl hHeld ?_ (Or.inl ⟨by rfl, fun wx hSw => by have hc := hSw.2.2.2; go_simp⟩)
 simp only [Act.put, z9]
 refine wpAnyH_ready (rs := [4]) (by kernel_rfl) (by simp) ?_
 refine AllReadyH.cons rfl (fun K9 hK => ?_) AllReadyH.nil
 rw [if_pos (by rfl)]
 refine wp_call_func #[.tmp 87] #[32] rfl #[.pointer (some ⟨s, 0, none⟩)] (by simp [Act.eval]) (enters_of Tryz.func20 (by kernel_rfl) rfl) (show Calls Tryz.prog 20 _ _ _ from HC1.out) (fun e w1 he4 => ?_)
 obtain ⟨rfl, HK1, HC2⟩ := he4
 have hS9 : (fun w' => w'.cell? ⟨P, 0, none⟩ = some (.pointer (some ⟨p, 0, none⟩)) ∧ w'.cell? ⟨P, 1, none⟩ = some (.pointer (some ⟨q, 0, none⟩)) ∧ w'.cell? ⟨P, 2, none⟩ = some (.pointer (some ⟨s, 0, none⟩)) ∧ w'.cell? ⟨P, 3, none⟩ = some (.pointer (some ⟨r, 0, none⟩))) w1 := ⟨HK1.out P (.inl rfl) 0 _ z0, HK1.out P (.inl rfl) 1 _ z1, HK1.out P (.inl rfl) 2 _ z2, HK1.out P (.inl rfl) 3 _ z3⟩
 refine ⟨_, rfl, hK _ _ hS9 (fun hHeld => ?_)⟩
 clear hK K9 hS9
 simp only [Act.put, z9]
 refine wpAnyH_ready (rs := [9]) (by kernel_rfl) (by simp) ?_
 refine AllReadyH.cons rfl (fun K9 hK => ?_) AllReadyH.nil
 rw [if_pos (by rfl)]
 refine wp_call_func #[.tmp 92] #[33] rfl #[.pointer (some ⟨r, 0, none⟩)] (by simp [Act.eval]) (enters_of Tryz.func21 (by kernel_rfl) rfl) (show Calls Tryz.prog 21 _ _ _ from HC2.out) (fun e w2 he4 => ?_)
 obtain ⟨rfl, HK2, HC3⟩ := he4
 have hS9 : (fun w' => w'.cell? ⟨P, 0, none⟩ = some (.pointer (some ⟨p, 0, none⟩)) ∧ w'.cell? ⟨P, 1, none⟩ = some (.pointer (some ⟨q, 0, none⟩)) ∧ w'.cell? ⟨P, 2, none⟩ = some (.pointer (some ⟨s, 0, none⟩)) ∧ w'.cell? ⟨P, 3, none⟩ = some (.pointer (some ⟨r, 0, none⟩))) w2 := ⟨HK2.out P (.inl rfl) 0 _ z0, HK2.out P (.inl rfl) 1 _ z1, HK2.out P (.inl rfl) 2 _ z2, HK2.out P (.inl rfl) 3 _ z3⟩
 refine ⟨_, rfl, hK _ _ hS9 (fun hHeld => ?_)⟩
 clear hK K9 hS9
 simp only [Act.put, z9]
 refine t8 (i := 10) (v := .bool true) rfl hHeld ?_
 simp only [Act.put, z9]
 refine t8 (i := 11) (v := .bool true) rfl hHeld ?_
 simp only [Act.put, z9]
 refine t8 (i := 12) (v := .pointer (some ⟨P, 0, none⟩)) rfl hHeld ?_
 simp only [Act.put, z9]
 refine wpAnyH_ready (rs := [13]) (by kernel_rfl) (by simp) ?_
 refine AllReadyH.cons rfl (fun K9 hK => ?_) AllReadyH.nil
 rw [if_pos (by rfl)]
 refine wp_call_func #[.tmp 96] #[31] rfl #[.pointer (some ⟨P, 0, none⟩)] (by simp [Act.eval]) (enters_of Tryz.func16 (by kernel_rfl) rfl) (show Calls Tryz.prog 16 _ _ _ from HC3.out) (fun e w3 he4 => ?_)
 obtain ⟨rfl, HK3, HN⟩ := he4
 have hS9 : (fun w' => w'.cell? ⟨P, 0, none⟩ = some (.pointer (some ⟨p, 0, none⟩)) ∧ w'.cell? ⟨P, 1, none⟩ = some (.pointer (some ⟨q, 0, none⟩)) ∧ w'.cell? ⟨P, 2, none⟩ = some (.pointer (some ⟨s, 0, none⟩)) ∧ w'.cell? ⟨P, 3, none⟩ = some (.pointer (some ⟨r, 0, none⟩))) w3 := ⟨HK3.out P (.inl rfl) 0 _ z0, HK3.out P (.inl rfl) 1 _ z1, HK3.out P (.inl rfl) 2 _ z2, HK3.out P (.inl rfl) 3 _ z3⟩
 refine ⟨_, rfl, hK _ _ hS9 (fun hHeld => ?_)⟩
 clear hK K9 hS9
 simp only [Act.put, z9]
 obtain ⟨pa, pk, pc, qa, qc, hp1, hq2⟩ := HN.out.1.pend
 refine wpAnyH_weak (S' := fun wy => (fun w' => w'.cell? ⟨P, 0, none⟩ = some (.pointer (some ⟨p, 0, none⟩)) ∧ w'.cell? ⟨P, 1, none⟩ = some (.pointer (some ⟨q, 0, none⟩)) ∧ w'.cell? ⟨P, 2, none⟩ = some (.pointer (some ⟨s, 0, none⟩)) ∧ w'.cell? ⟨P, 3, none⟩ = some (.pointer (some ⟨r, 0, none⟩))) wy ∧ wy.cell? ⟨q, 2, none⟩ = some (.slice qa pk qc)) (fun _ g => g.1) _ _ _ _ ?_
 have hHeld : ((fun w' => w'.cell? ⟨P, 0, none⟩ = some (.pointer (some ⟨p, 0, none⟩)) ∧ w'.cell? ⟨P, 1, none⟩ = some (.pointer (some ⟨q, 0, none⟩)) ∧ w'.cell? ⟨P, 2, none⟩ = some (.pointer (some ⟨s, 0, none⟩)) ∧ w'.cell? ⟨P, 3, none⟩ = some (.pointer (some ⟨r, 0, none⟩))) w3) ∧ w3.cell? ⟨q, 2, none⟩ = some (.slice qa pk qc) := ⟨hHeld, hq2⟩
 have HPd := pending_any p pa pk pc w3 hp1
 refine t8 (i := 14) (v := .bool true) rfl hHeld ?_
 simp only [Act.put, z9]
 refine t8 (i := 15) (v := .bool true) rfl hHeld ?_
 simp only [Act.put, z9]
 refine t8 (i := 16) (v := .pointer (some ⟨P, 0, none⟩)) rfl hHeld ?_
 simp only [Act.put, z9]
 refine t8 (i := 17) (v := .pointer (some ⟨P, 0, none⟩)) rfl hHeld ?_
 simp only [Act.put, z9]
 refine t8 (i := 18) (v := .pointer (some ⟨P, 0, none⟩)) rfl hHeld ?_
 simp only [Act.put, z9]
 refine t8 (i := 19) (v := .pointer (some ⟨p, 0, none⟩)) rfl hHeld ?_ (Or.inl ⟨by rfl, fun wx hSw => by have hc := hSw.1.1; go_simp⟩)
 simp only [Act.put, z9]
 refine t8 (i := 21) (v := .pointer (some ⟨P, 0, none⟩)) rfl hHeld ?_
 simp only [Act.put, z9]
 refine t8 (i := 22) (v := .pointer (some ⟨P, 0, none⟩)) rfl hHeld ?_
 simp only [Act.put, z9]
 refine t8 (i := 23) (v := .pointer (some ⟨P, 1, none⟩)) rfl hHeld ?_
 simp only [Act.put, z9]
 refine t8 (i := 24) (v := .pointer (some ⟨q, 0, none⟩)) rfl hHeld ?_ (Or.inl ⟨by rfl, fun wx hSw => by have hc := hSw.1.2.1; go_simp⟩)
 simp only [Act.put, z9]
 refine t8 (i := 25) (v := .pointer (some ⟨q, 0, none⟩)) rfl hHeld ?_
 simp only [Act.put, z9]
 refine t8 (i := 26) (v := .pointer (some ⟨q, 2, none⟩)) rfl hHeld ?_
 simp only [Act.put, z9]
 refine t8 (i := 27) (v := .slice qa pk qc) rfl hHeld ?_ (Or.inl ⟨by rfl, fun wx hSw => by have hc := hSw.2; go_simp⟩)
 simp only [Act.put, z9]
 refine t8 (i := 28) (v := .int .i64 (pk : Nat)) rfl hHeld ?_
 simp only [Act.put, z9]
 refine wpAnyH_ready (rs := [20]) (by kernel_rfl) (by simp) ?_
 refine AllReadyH.cons rfl (fun K9 hK => ?_) AllReadyH.nil
 rw [if_pos (by rfl)]
 refine wp_call_func #[.tmp 103] #[24] rfl #[.pointer (some ⟨p, 0, none⟩)] (by simp [Act.eval]) (enters_of Tryz.func22 (by kernel_rfl) rfl) (show Calls Tryz.prog 22 _ _ _ from HPd) (fun e w4 he4 => ?_)
 obtain ⟨rfl, rfl⟩ := he4
 have hS9 := hHeld
 refine ⟨_, rfl, hK _ _ hS9 (fun hHeld => ?_)⟩
 clear hK K9 hS9
 simp only [Act.put, z9]
 refine t8 (i := 29) (v := .bool true) rfl hHeld ?_
 simp only [Act.put, z9]
 refine t8 (i := 30) (v := .bool true) rfl hHeld ?_
 simp only [Act.put, z9]
 refine t8 (i := 31) (v := .bool true) rfl hHeld ?_
 simp only [Act.put, z9]
 refine wpAnyH_done (by kernel_rfl) ?_ _
 clear hHeld HC1 HC2 HC3 HK1 HK2 HK3 HPd hp1 hq2
 go_wp2
 go_ret
 exact ⟨rfl, HN.out.1, (OX.out.drew.mono (fun _ _ g => g.elim)).trans HN.out.2 (fun _ _ g => g)⟩
end Go.Proofs.YtlcglapcmdpkfaaGreat
