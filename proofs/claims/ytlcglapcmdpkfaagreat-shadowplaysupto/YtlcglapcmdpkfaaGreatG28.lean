import Derived.Test.YtlcglapcmdpkfaaGreatG27
import Derived.Test.YtlcglapcmdpkfaaGreatV3
namespace Go.Proofs.YtlcglapcmdpkfaaGreat
open Go.RowKit Go.Maps
set_option linter.unusedSimpArgs false
set_option linter.unusedVariables false
theorem own_cells {w : World} {B n c : Nat} {a : Option Addr} {zs : List Int} (h : w.ownsRow B 3 1 (.slice a n c) n (zs.map (Value.int .i64))) (hn : zs.length = n) : ∀ j, j < n → ∃ g, a = some ⟨g, 0, none⟩ ∧ w.cell? ⟨g, j, none⟩ = some (.int .i64 (zs.getD j 0)) := by
 intro j hj
 rcases h.2 with ⟨hv, h0⟩ | ⟨g, cap, cur, hv, hb, hg, hc, hcm, hcs, ht⟩
 ·omega
 ·simp only [Value.slice.injEq] at hv
  obtain ⟨rfl, _, rfl⟩ := hv
  refine ⟨g, rfl, ?_⟩
  rw [cell_of_row _ _ _ _ _ _ hg]
  have e : (zs.map (Value.int .i64))[j]? = some (.int .i64 (zs.getD j 0)) := by
   rw [List.getElem?_map, List.getD, List.getElem?_eq_getElem (by omega)]
   rfl
  rw [← ht, List.getElem?_take] at e
  split at e
  ·simpa using e
  ·cases e
section
variable {w w1 : World} {B P p S q K s mc mn r : Nat} {pv tv rv tr kr nv sv rp : Value} {x y : SS} {rs : List RW} {lk ln : List RPg} {d e : DS}
set_option maxRecDepth 100000 in
set_option maxHeartbeats 2000000 in
theorem alike_none (P : Nat) (w : World) (h2 : w.cell? ⟨P, 2, none⟩ = some (.pointer none)) (h3 : w.cell? ⟨P, 3, none⟩ = some (.pointer none)) :
  Calls Tryz.prog 16 #[.pointer (some ⟨P, 0, none⟩)] w fun e w' => e = .returned (.bool true) ∧ Only (fun _ => False) w w' := by
 have HO : Hid (Only (fun _ => False) w w) := Only.refl _ _
 go_enter Tryz.func16, Tryz.ntmps16
 go_wp2
 go_ret
 exact ⟨rfl, HO.out⟩
theorem dead_still {w w' : World} {r : Nat} (h : RDead w r) (ho : Only (fun _ => False) w w') : RDead w' r := by
 obtain ⟨h1, ⟨e, h2⟩, a, n, c, h3⟩ := h
 exact ⟨ho.cell h1 (fun g => g), ⟨e, ho.cell h2 (fun g => g)⟩, a, n, c, ho.cell h3 (fun g => g)⟩
set_option maxRecDepth 100000 in
set_option maxHeartbeats 4000000 in
theorem alike_dead (P s r : Nat) (w : World) (h2 : w.cell? ⟨P, 2, none⟩ = some (.pointer (some ⟨s, 0, none⟩))) (h3 : w.cell? ⟨P, 3, none⟩ = some (.pointer (some ⟨r, 0, none⟩))) (hs : w.cell? ⟨s, 0, none⟩ = some (.pointer none)) (hr : RDead w r) :
  Calls Tryz.prog 16 #[.pointer (some ⟨P, 0, none⟩)] w fun e w' => e = .returned (.bool true) ∧ Only (fun _ => False) w w' := by
 have HL : Hid (Calls Tryz.prog 49 _ _ _) := listed_dead s w hs
 have HR := room_dead s w hs
 have HR2 := rRoom_dead r w hr.1
 have HF : Hid (w.cell? ⟨P, 2, none⟩ = some (.pointer (some ⟨s, 0, none⟩)) ∧ w.cell? ⟨P, 3, none⟩ = some (.pointer (some ⟨r, 0, none⟩)) ∧ w.cell? ⟨s, 0, none⟩ = some (.pointer none) ∧ RDead w r) := ⟨h2, h3, hs, hr⟩
 clear hs hr
 go_enter Tryz.func16, Tryz.ntmps16
 go_wp2_with fail
 refine HR.mono ?_
 rintro e w1 ⟨rfl, rfl⟩
 clear HR
 go_wp2_with fail
 refine HR2.mono ?_
 rintro e w2 ⟨rfl, rfl⟩
 clear HR2
 go_wp2_with fail
 refine (show Calls Tryz.prog 49 _ _ _ from HL.out).mono ?_
 rintro e w3 ⟨a, c, rfl, ho⟩
 obtain ⟨g2, g3, gs, gr⟩ := HF.out
 have gd := dead_still gr ho
 obtain ⟨z6, ⟨ep, z2⟩, a5, n5, c5, z5⟩ := gd
 have y2 := ho.cell g2 (fun e => e)
 have y3 := ho.cell g3 (fun e => e)
 have HE := epoch_dead s w3 (ho.cell gs (fun e => e))
 have HP := rpages_dead r a5 n5 c5 w3 z5 z6
 have HS : Hid (Calls Tryz.prog 50 #[.slice a 0 c, .slice none 0 0] w3 fun e w' => e = .returned (.bool true) ∧ Only (fun _ => False) w3 w') := by
  refine (sameints_any a none 0 c 0 (fun _ => 0) w3 (by omega) (fun j hj => by omega) (fun j hj => by omega)).mono ?_
  rintro e w' ⟨rfl, hw⟩
  exact ⟨rfl, by first | exact hw | (rw [hw]; exact Only.refl _ _)⟩
 have HO : Hid (Only (fun _ => False) w2 w3) := ho
 clear HL gr gs g2 g3 h2 h3 ho
 go_wp2_with fail
 refine HE.mono ?_
 rintro e w4 ⟨rfl, rfl⟩
 clear HE
 go_wp2_with fail
 refine HP.mono ?_
 rintro e w5 ⟨rfl, rfl⟩
 clear HP
 go_wp2_with fail
 refine (show Calls Tryz.prog 50 _ _ _ from HS.out).mono ?_
 rintro e w6 ⟨rfl, ho6⟩
 have HQ : Hid (Only (fun _ => False) w2 w6) := HO.out.trans ho6 (fun _ _ e => e)
 clear HS ho6
 go_wp2
 go_ret
 exact ⟨rfl, HQ.out⟩
set_option maxRecDepth 100000 in
set_option maxHeartbeats 4000000 in
theorem alike_live (hc : PlC w B P p S q K pv d rv rs d (.pointer (some ⟨s, 0, none⟩)) (.pointer (some ⟨r, 0, none⟩))) (h : Duo w B P p S q K pv s mc mn tv x rv rs r tr kr nv x lk ln) (hsz : x.size = d.n / 4) :
  Calls Tryz.prog 16 #[.pointer (some ⟨P, 0, none⟩)] w fun e w' => e = .returned (.bool true) ∧ Only (fun _ => False) w w' := by
 have h2 : w.cell? ⟨P, 2, none⟩ = some (.pointer (some ⟨s, 0, none⟩)) := hc.pc 2 _ rfl
 have h3 : w.cell? ⟨P, 3, none⟩ = some (.pointer (some ⟨r, 0, none⟩)) := hc.pc 3 _ rfl
 have HR : Hid (Calls Tryz.prog 47 _ _ _) := room_any h.st (h.old hc).2.2.1
 have HR2 : Hid (∀ w1, Only (fun _ => False) w w1 → Calls Tryz.prog 48 #[.pointer (some ⟨r, 0, none⟩)] w1 fun e w' => e = .returned (.tuple #[.int .i64 (freeN x x.size : Nat), .int .i64 (needN x : Nat)]) ∧ Only (fun _ => False) w1 w') := fun w1 ho => rRoom_any (h.still ho).rt d.n ((hc.still ho).rf.c0) hc.rf.n2 hsz.symm
 have HL : Hid (∀ w1, Only (fun _ => False) w w1 → Calls Tryz.prog 49 #[.pointer (some ⟨s, 0, none⟩)] w1 fun e w' => ∃ a c, e = .returned (.tuple #[.slice a x.now.length c, .bool true]) ∧ Hid ((∀ j, j < x.now.length → ∃ g, a = some ⟨g, 0, none⟩ ∧ w'.cell? ⟨g, j, none⟩ = some (.int .i64 ((x.now.map (·.1)).getD j 0)) ∧ g < w'.heap.size) ∧ Only (fun _ => False) w1 w')) := fun w1 ho => by
  refine (callsIn_wide (n := 6)).1 ((listed_core (x.now.map (·.1)) (by have := h.rt.n728; simpa using this) (some ⟨s, 0, none⟩) w1 (fun w2 ho2 => (callsIn_wide (n := 5)).2 (pages_ok (h.still (ho.trans ho2 (fun _ _ e => e))).st))).mono ?_)
  rintro e w' ⟨v, rfl, hv, ho'⟩
  rw [List.length_map] at hv
  obtain ⟨a, c, rfl⟩ := ownsRow_slice hv
  refine ⟨a, c, rfl, fun j hj => ?_, ho'⟩
  obtain ⟨g, rfl, hg⟩ := own_cells hv (by simp) j hj
  exact ⟨g, rfl, hg, World.block_lt_of_cell? _ _ hg⟩
 have HE : Hid (∀ w1, Only (fun _ => False) w w1 → Calls Tryz.prog 14 #[.pointer (some ⟨s, 0, none⟩)] w1 fun e w' => e = .returned (.int .u64 (x.epoch : Nat)) ∧ w' = w1) := fun w1 ho => epoch_ok (h.still ho).st
 have HP : Hid (∀ w1, Only (fun _ => False) w w1 → Calls Tryz.prog 51 #[.pointer (some ⟨r, 0, none⟩)] w1 fun e w' => ∃ a c, e = .returned (.slice a x.now.length c) ∧ Hid (FreshI w' w1.heap.size (.slice a x.now.length c) (x.now.map fun p => p.1.toNat) ∧ Only (fun _ => False) w1 w')) := fun w1 ho => rpages_any (h.still ho).rt
 have HW : Hid (∀ j, j < x.now.length → (((x.now.map fun p => p.1.toNat).getD j 0 : Nat) : Int) = (x.now.map (·.1)).getD j 0) := fun j hj => by
  have h0 := (h.rt.wf.now _ (List.getElem_mem hj)).1.1
  simp only [List.getD, List.getElem?_map, List.getElem?_eq_getElem hj, Option.map_some, Option.getD_some]
  omega
 have HC : Hid (∀ w1, Only (fun _ => False) w w1 → w1.cell? ⟨P, 2, none⟩ = some (.pointer (some ⟨s, 0, none⟩)) ∧ w1.cell? ⟨P, 3, none⟩ = some (.pointer (some ⟨r, 0, none⟩)) ∧ w1.cell? ⟨r, 2, none⟩ = some (.int .u64 (x.epoch : Nat)) ∧ w1.cell? ⟨r, 6, none⟩ = some (.bool false)) := fun w1 ho => ⟨(hc.still ho).pc 2 _ rfl, (hc.still ho).pc 3 _ rfl, (h.still ho).rt.c2, (h.still ho).rt.c6⟩
 have hlen := h.rt.n728
 obtain ⟨F, hF⟩ : ∃ F, F = freeN x x.size := ⟨_, rfl⟩
 obtain ⟨D, hD⟩ : ∃ F, F = needN x := ⟨_, rfl⟩
 obtain ⟨n, hn⟩ : ∃ F, F = x.now.length := ⟨_, rfl⟩
 obtain ⟨ep, hep⟩ : ∃ F, F = x.epoch := ⟨_, rfl⟩
 rw [← hF, ← hD] at HR HR2
 rw [← hn] at HL HP HW hlen
 rw [← hep] at HE HC
 clear h hc hsz hF hD hn hep
 go_enter Tryz.func16, Tryz.ntmps16
 go_wp2_with fail
 refine (show Calls Tryz.prog 47 _ _ _ from HR.out).mono ?_
 rintro e w1 ⟨rfl, ho1⟩
 have HR2' : Hid (Calls Tryz.prog 48 _ _ _) := HR2.out w1 ho1
 obtain ⟨y2, y3, _, _⟩ := HC.out w1 ho1
 have O1 : Hid (Only (fun _ => False) w w1) := ho1
 clear HR HR2 ho1 h2 h3
 go_wp2_with fail
 refine (show Calls Tryz.prog 48 _ _ _ from HR2'.out).mono ?_
 rintro e w2 ⟨rfl, ho2⟩
 have O2 : Hid (Only (fun _ => False) w w2) := O1.out.trans ho2 (fun _ _ e => e)
 have HL' : Hid (Calls Tryz.prog 49 _ _ _) := HL.out w2 O2.out
 clear HR2' ho2 HL y2 y3
 obtain ⟨y2, y3, _, _⟩ := HC.out w2 O2.out
 go_wp2_with fail
 refine (show Calls Tryz.prog 49 _ _ _ from HL'.out).mono ?_
 rintro e w3 ⟨a, c, rfl, H3⟩
 have O3 : Hid (Only (fun _ => False) w w3) := O2.out.trans H3.out.2 (fun _ _ e => e)
 clear HL' y2 y3
 obtain ⟨y2, y3, z2, z6⟩ := HC.out w3 O3.out
 have HE' := HE.out w3 O3.out
 have HP' : Hid (Calls Tryz.prog 51 _ _ _) := HP.out w3 O3.out
 clear HE HP HC
 go_wp2_with fail
 refine HE'.mono ?_
 rintro e w4 ⟨rfl, rfl⟩
 clear HE'
 go_wp2_with fail
 refine (show Calls Tryz.prog 51 _ _ _ from HP'.out).mono ?_
 rintro e w5 ⟨a5, c5, rfl, H5⟩
 have HS : Hid (Calls Tryz.prog 50 #[.slice a n c, .slice a5 n c5] w5 fun e w' => e = .returned (.bool true) ∧ Only (fun _ => False) w5 w') := by
  obtain ⟨hf5, ho5⟩ := H5.out
  obtain ⟨a6, c6, he, hc6⟩ := hf5.form
  simp only [Value.slice.injEq] at he
  obtain ⟨rfl, hnn, rfl⟩ := he
  refine sameints_any a a5 n c c5 (fun j => (x.now.map (·.1)).getD j 0) w5 (by omega) (fun j hj => ?_) (fun j hj => ?_)
  ·obtain ⟨g, rfl, hg, _⟩ := H3.out.1 j hj
   exact ⟨g, rfl, ho5.cell hg (fun e => e)⟩
  ·obtain ⟨g, rfl, hg⟩ := hc6 j (by omega)
   refine ⟨g, rfl, ?_⟩
   rw [hg, HW.out j hj]
 have O5 : Hid (Only (fun _ => False) w w5) := O3.out.trans H5.out.2 (fun _ _ e => e)
 clear HP' H5 H3 y2 y3 z2 z6
 go_wp2_with fail
 refine (show Calls Tryz.prog 50 _ _ _ from HS.out).mono ?_
 rintro e w6 ⟨rfl, ho6⟩
 have HQ : Hid (Only (fun _ => False) w w6) := O5.out.trans ho6 (fun _ _ e => e)
 clear HS ho6
 go_wp2
 go_ret
 exact ⟨rfl, HQ.out⟩
theorem alike_any {n : Nat} (hc : PlC w B P p S q K pv d rv rs d sv rp) (h : StK w B P p S q K pv rv rs n sv rp) (hn : n = d.n) :
  Calls Tryz.prog 16 #[.pointer (some ⟨P, 0, none⟩)] w fun e w' => e = .returned (.bool true) ∧ Only (fun _ => False) w w' := by
 rcases h with ⟨rfl, rfl⟩ | ⟨s, r, rfl, rfl, h1, h2, h3, h4⟩ | ⟨s, r, mc, mn, tv, tr, kr, nv, x, lk, ln, rfl, rfl, e3, h⟩
 ·exact alike_none P w (hc.pc 2 _ rfl) (hc.pc 3 _ rfl)
 ·exact alike_dead P s r w (hc.pc 2 _ rfl) (hc.pc 3 _ rfl) h1 h2
 ·exact alike_live hc h (by rw [← hn]; exact e3)
end
end Go.Proofs.YtlcglapcmdpkfaaGreat
