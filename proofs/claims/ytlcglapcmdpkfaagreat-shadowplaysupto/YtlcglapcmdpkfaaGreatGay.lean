/-      -/
import Derived.Test.YtlcglapcmdpkfaaGreatGax
import Derived.Test.YtlcglapcmdpkfaaGreatGan
import Derived.Test.YtlcglapcmdpkfaaGreatGas
import Derived.Test.YtlcglapcmdpkfaaGreatGap
import Derived.Test.YtlcglapcmdpkfaaGreatGak
import Derived.Test.YtlcglapcmdpkfaaGreatGai
namespace Go.Proofs.YtlcglapcmdpkfaaGreat
open Go.RowKit Go.Maps
set_option linter.unusedSimpArgs false
set_option linter.unusedVariables false
set_option maxRecDepth 100000
set_option maxHeartbeats 16000000
theorem own_cells {w : World} {B n c : Nat} {a : Option Addr} {zs : List Int} (h : w.ownsRow B 3 1 (.slice a n c) n (zs.map (Value.int .i64))) (hn : zs.length = n) : ∀ j, j < n → ∃ g, a = some ⟨g, 0, none⟩ ∧ w.cell? ⟨g, j, none⟩ = some (.int .i64 (zs.getD j 0)) := by
 intro j hj
 rcases h.2 with ⟨hv, h0⟩ | ⟨g, cap, cur, hv, hb, hg, hc, hcm, hcs, ht⟩
 ·omega
 ·simp only [Value.slice.injEq] at hv
  obtain ⟨rfl, _, rfl⟩ := hv
  refine ⟨g, rfl, ?_⟩
  rw [cell_of_row _ _ _ _ _ _ hg]
  have e : (zs.map (Value.int .i64))[j]? = some (.int .i64 (zs.getD j 0)) := by
   rw [List.getElem?_map, List.getD, List.getElem?_eq_getElem (by omega)]
   rfl
  rw [← ht, List.getElem?_take] at e
  split at e
  ·simpa using e
  ·cases e
section
variable {w w1 : World} {B P p S q K s mc mn r : Nat} {pv tv rv tr kr nv sv rp : Value} {x y : SS} {rs : List RW} {lk ln : List RPg} {d e : DS}
theorem alike_none (P : Nat) (w : World) (h2 : w.cell? ⟨P, 2, none⟩ = some (.pointer none)) (h3 : w.cell? ⟨P, 3, none⟩ = some (.pointer none)) :
  Calls Tryz.prog 16 #[.pointer (some ⟨P, 0, none⟩)] w fun e w' => e = .returned (.bool true) ∧ Only (fun _ => False) w w' := by
 have HO : Hid (Only (fun _ => False) w w) := Only.refl _ _
 go_enter Tryz.func16, Tryz.ntmps16
 go_wp2
 go_ret
 exact ⟨rfl, HO.out⟩
theorem dead_still {w w' : World} {r : Nat} (h : RDead w r) (ho : Only (fun _ => False) w w') : RDead w' r := by
 obtain ⟨h1, ⟨e, h2⟩, a, n, c, h3⟩ := h
 exact ⟨ho.cell h1 (fun g => g), ⟨e, ho.cell h2 (fun g => g)⟩, a, n, c, ho.cell h3 (fun g => g)⟩
theorem alike_dead (P s r : Nat) (w : World) (h2 : w.cell? ⟨P, 2, none⟩ = some (.pointer (some ⟨s, 0, none⟩))) (h3 : w.cell? ⟨P, 3, none⟩ = some (.pointer (some ⟨r, 0, none⟩))) (hs : w.cell? ⟨s, 0, none⟩ = some (.pointer none)) (hr : RDead w r) :
  Calls Tryz.prog 16 #[.pointer (some ⟨P, 0, none⟩)] w fun e w' => e = .returned (.bool true) ∧ Only (fun _ => False) w w' := by
 have HL : Hid (Calls Tryz.prog 49 _ _ _) := listed_dead s w hs
 have HR := room_dead s w hs
 have HR2 := rRoom_dead r w hr.1
 have HF : Hid (w.cell? ⟨P, 2, none⟩ = some (.pointer (some ⟨s, 0, none⟩)) ∧ w.cell? ⟨P, 3, none⟩ = some (.pointer (some ⟨r, 0, none⟩)) ∧ w.cell? ⟨s, 0, none⟩ = some (.pointer none) ∧ RDead w r) := ⟨h2, h3, hs, hr⟩
 clear hs hr
 go_enter Tryz.func16, Tryz.ntmps16
 go_wp2_with fail
 refine HR.mono ?_
 rintro e w1 ⟨rfl, rfl⟩
 clear HR
 go_wp2_with fail
 refine HR2.mono ?_
 rintro e w2 ⟨rfl, rfl⟩
 clear HR2
 go_wp2_with fail
 refine (show Calls Tryz.prog 49 _ _ _ from HL.out).mono ?_
 rintro e w3 ⟨a, c, rfl, ho⟩
 obtain ⟨g2, g3, gs, gr⟩ := HF.out
 have gd := dead_still gr ho
 obtain ⟨z6, ⟨ep, z2⟩, a5, n5, c5, z5⟩ := gd
 have y2 := ho.cell g2 (fun e => e)
 have y3 := ho.cell g3 (fun e => e)
 have HE := epoch_dead s w3 (ho.cell gs (fun e => e))
 have HP := rpages_dead r a5 n5 c5 w3 z5 z6
 have HS : Hid (Calls Tryz.prog 50 #[.slice a 0 c, .slice none 0 0] w3 fun e w' => e = .returned (.bool true) ∧ Only (fun _ => False) w3 w') := by
  refine (sameints_any a none 0 c 0 (fun _ => 0) w3 (by omega) (fun j hj => by omega) (fun j hj => by omega)).mono ?_
  rintro e w' ⟨rfl, hw⟩
  exact ⟨rfl, by first | exact hw | (rw [hw]; exact Only.refl _ _)⟩
 have HO : Hid (Only (fun _ => False) w2 w3) := ho
 clear HL gr gs g2 g3 h2 h3 ho
 go_wp2_with fail
 refine HE.mono ?_
 rintro e w4 ⟨rfl, rfl⟩
 clear HE
 go_wp2_with fail
 refine HP.mono ?_
 rintro e w5 ⟨rfl, rfl⟩
 clear HP
 go_wp2_with fail
 refine (show Calls Tryz.prog 50 _ _ _ from HS.out).mono ?_
 rintro e w6 ⟨rfl, ho6⟩
 have HQ : Hid (Only (fun _ => False) w2 w6) := HO.out.trans ho6 (fun _ _ e => e)
 clear HS ho6
 go_wp2
 go_ret
 exact ⟨rfl, HQ.out⟩
theorem alike_live (hc : PlC w B P p S q K pv d rv rs d (.pointer (some ⟨s, 0, none⟩)) (.pointer (some ⟨r, 0, none⟩))) (h : Duo w B P p S q K pv s mc mn tv x rv rs r tr kr nv x lk ln) (hsz : x.size = d.n / 4) :
  Calls Tryz.prog 16 #[.pointer (some ⟨P, 0, none⟩)] w fun e w' => e = .returned (.bool true) ∧ Only (fun _ => False) w w' := by
 have h2 : w.cell? ⟨P, 2, none⟩ = some (.pointer (some ⟨s, 0, none⟩)) := hc.pc 2 _ rfl
 have h3 : w.cell? ⟨P, 3, none⟩ = some (.pointer (some ⟨r, 0, none⟩)) := hc.pc 3 _ rfl
 have HR : Hid (Calls Tryz.prog 47 _ _ _) := room_any h.st (h.old hc).2.2.1
 have HR2 : Hid (∀ w1, Only (fun _ => False) w w1 → Calls Tryz.prog 48 #[.pointer (some ⟨r, 0, none⟩)] w1 fun e w' => e = .returned (.tuple #[.int .i64 (freeN x x.size : Nat), .int .i64 (needN x : Nat)]) ∧ Only (fun _ => False) w1 w') := fun w1 ho => rRoom_any (h.still ho).rt d.n ((hc.still ho).rf.c0) hc.rf.n2 hsz.symm
 have HL : Hid (∀ w1, Only (fun _ => False) w w1 → Calls Tryz.prog 49 #[.pointer (some ⟨s, 0, none⟩)] w1 fun e w' => ∃ a c, e = .returned (.tuple #[.slice a x.now.length c, .bool true]) ∧ Hid ((∀ j, j < x.now.length → ∃ g, a = some ⟨g, 0, none⟩ ∧ w'.cell? ⟨g, j, none⟩ = some (.int .i64 ((x.now.map (·.1)).getD j 0)) ∧ g < w'.heap.size) ∧ Only (fun _ => False) w1 w')) := fun w1 ho => by
  refine (callsIn_wide (n := 6)).1 ((listed_core (x.now.map (·.1)) (by have := h.rt.n728; simpa using this) (some ⟨s, 0, none⟩) w1 (fun w2 ho2 => (callsIn_wide (n := 5)).2 (pages_ok (h.still (ho.trans ho2 (fun _ _ e => e))).st))).mono ?_)
  rintro e w' ⟨v, rfl, hv, ho'⟩
  rw [List.length_map] at hv
  obtain ⟨a, c, rfl⟩ := ownsRow_slice hv
  refine ⟨a, c, rfl, fun j hj => ?_, ho'⟩
  obtain ⟨g, rfl, hg⟩ := own_cells hv (by simp) j hj
  exact ⟨g, rfl, hg, World.block_lt_of_cell? _ _ hg⟩
 have HE : Hid (∀ w1, Only (fun _ => False) w w1 → Calls Tryz.prog 14 #[.pointer (some ⟨s, 0, none⟩)] w1 fun e w' => e = .returned (.int .u64 (x.epoch : Nat)) ∧ w' = w1) := fun w1 ho => epoch_ok (h.still ho).st
 have HP : Hid (∀ w1, Only (fun _ => False) w w1 → Calls Tryz.prog 51 #[.pointer (some ⟨r, 0, none⟩)] w1 fun e w' => ∃ a c, e = .returned (.slice a x.now.length c) ∧ Hid (FreshI w' w1.heap.size (.slice a x.now.length c) (x.now.map fun p => p.1.toNat) ∧ Only (fun _ => False) w1 w')) := fun w1 ho => rpages_any (h.still ho).rt
 have HW : Hid (∀ j, j < x.now.length → (((x.now.map fun p => p.1.toNat).getD j 0 : Nat) : Int) = (x.now.map (·.1)).getD j 0) := fun j hj => by
  have h0 := (h.rt.wf.now _ (List.getElem_mem hj)).1.1
  simp only [List.getD, List.getElem?_map, List.getElem?_eq_getElem hj, Option.map_some, Option.getD_some]
  omega
 have HC : Hid (∀ w1, Only (fun _ => False) w w1 → w1.cell? ⟨P, 2, none⟩ = some (.pointer (some ⟨s, 0, none⟩)) ∧ w1.cell? ⟨P, 3, none⟩ = some (.pointer (some ⟨r, 0, none⟩)) ∧ w1.cell? ⟨r, 2, none⟩ = some (.int .u64 (x.epoch : Nat)) ∧ w1.cell? ⟨r, 6, none⟩ = some (.bool false)) := fun w1 ho => ⟨(hc.still ho).pc 2 _ rfl, (hc.still ho).pc 3 _ rfl, (h.still ho).rt.c2, (h.still ho).rt.c6⟩
 have hlen := h.rt.n728
 obtain ⟨F, hF⟩ : ∃ F, F = freeN x x.size := ⟨_, rfl⟩
 obtain ⟨D, hD⟩ : ∃ F, F = needN x := ⟨_, rfl⟩
 obtain ⟨n, hn⟩ : ∃ F, F = x.now.length := ⟨_, rfl⟩
 obtain ⟨ep, hep⟩ : ∃ F, F = x.epoch := ⟨_, rfl⟩
 rw [← hF, ← hD] at HR HR2
 rw [← hn] at HL HP HW hlen
 rw [← hep] at HE HC
 clear h hc hsz hF hD hn hep
 go_enter Tryz.func16, Tryz.ntmps16
 go_wp2_with fail
 refine (show Calls Tryz.prog 47 _ _ _ from HR.out).mono ?_
 rintro e w1 ⟨rfl, ho1⟩
 have HR2' : Hid (Calls Tryz.prog 48 _ _ _) := HR2.out w1 ho1
 obtain ⟨y2, y3, _, _⟩ := HC.out w1 ho1
 have O1 : Hid (Only (fun _ => False) w w1) := ho1
 clear HR HR2 ho1 h2 h3
 go_wp2_with fail
 refine (show Calls Tryz.prog 48 _ _ _ from HR2'.out).mono ?_
 rintro e w2 ⟨rfl, ho2⟩
 have O2 : Hid (Only (fun _ => False) w w2) := O1.out.trans ho2 (fun _ _ e => e)
 have HL' : Hid (Calls Tryz.prog 49 _ _ _) := HL.out w2 O2.out
 clear HR2' ho2 HL y2 y3
 obtain ⟨y2, y3, _, _⟩ := HC.out w2 O2.out
 go_wp2_with fail
 refine (show Calls Tryz.prog 49 _ _ _ from HL'.out).mono ?_
 rintro e w3 ⟨a, c, rfl, H3⟩
 have O3 : Hid (Only (fun _ => False) w w3) := O2.out.trans H3.out.2 (fun _ _ e => e)
 clear HL' y2 y3
 obtain ⟨y2, y3, z2, z6⟩ := HC.out w3 O3.out
 have HE' := HE.out w3 O3.out
 have HP' : Hid (Calls Tryz.prog 51 _ _ _) := HP.out w3 O3.out
 clear HE HP HC
 go_wp2_with fail
 refine HE'.mono ?_
 rintro e w4 ⟨rfl, rfl⟩
 clear HE'
 go_wp2_with fail
 refine (show Calls Tryz.prog 51 _ _ _ from HP'.out).mono ?_
 rintro e w5 ⟨a5, c5, rfl, H5⟩
 have HS : Hid (Calls Tryz.prog 50 #[.slice a n c, .slice a5 n c5] w5 fun e w' => e = .returned (.bool true) ∧ Only (fun _ => False) w5 w') := by
  obtain ⟨hf5, ho5⟩ := H5.out
  obtain ⟨a6, c6, he, hc6⟩ := hf5.form
  simp only [Value.slice.injEq] at he
  obtain ⟨rfl, hnn, rfl⟩ := he
  refine sameints_any a a5 n c c5 (fun j => (x.now.map (·.1)).getD j 0) w5 (by omega) (fun j hj => ?_) (fun j hj => ?_)
  ·obtain ⟨g, rfl, hg, _⟩ := H3.out.1 j hj
   exact ⟨g, rfl, ho5.cell hg (fun e => e)⟩
  ·obtain ⟨g, rfl, hg⟩ := hc6 j (by omega)
   refine ⟨g, rfl, ?_⟩
   rw [hg, HW.out j hj]
 have O5 : Hid (Only (fun _ => False) w w5) := O3.out.trans H5.out.2 (fun _ _ e => e)
 clear HP' H5 H3 y2 y3 z2 z6
 go_wp2_with fail
 refine (show Calls Tryz.prog 50 _ _ _ from HS.out).mono ?_
 rintro e w6 ⟨rfl, ho6⟩
 have HQ : Hid (Only (fun _ => False) w w6) := O5.out.trans ho6 (fun _ _ e => e)
 clear HS ho6
 go_wp2
 go_ret
 exact ⟨rfl, HQ.out⟩
theorem alike_any {n : Nat} (hc : PlC w B P p S q K pv d rv rs d sv rp) (h : StK w B P p S q K pv rv rs n sv rp) (hn : n = d.n) :
  Calls Tryz.prog 16 #[.pointer (some ⟨P, 0, none⟩)] w fun e w' => e = .returned (.bool true) ∧ Only (fun _ => False) w w' := by
 rcases h with ⟨rfl, rfl⟩ | ⟨s, r, rfl, rfl, h1, h2, h3, h4⟩ | ⟨s, r, mc, mn, tv, tr, kr, nv, x, lk, ln, rfl, rfl, e3, h⟩
 ·exact alike_none P w (hc.pc 2 _ rfl) (hc.pc 3 _ rfl)
 ·exact alike_dead P s r w (hc.pc 2 _ rfl) (hc.pc 3 _ rfl) h1 h2
 ·exact alike_live hc h (by rw [← hn]; exact e3)
end
def setP (w : World) (P : Nat) (sv rp : Value) : World := (w.setCell ⟨P, 2, none⟩ sv).setCell ⟨P, 3, none⟩ rp
section
variable {w w1 : World} {B P p S q K s mc mn r : Nat} {pv tv rv tr kr nv sv rp sv1 rp1 : Value} {x y : SS} {rs : List RW} {lk ln : List RPg} {d e : DS}
theorem setP_only (w : World) (P : Nat) (sv rp : Value) : Only (fun k => k = P) w (setP w P sv rp) := by
 have o1 : Only (fun k => k = P) w (w.setCell ⟨P, 2, none⟩ sv) := (Only.refl _ w).setCell _ _ (fun _ => rfl)
 have o2 : Only (fun k => k = P) (w.setCell ⟨P, 2, none⟩ sv) (setP w P sv rp) := (Only.refl _ _).setCell _ _ (fun _ => rfl)
 exact o1.trans o2 (fun _ _ e => e)
theorem PlC.set (h : PlC w B P p S q K pv d rv rs e sv rp) : PlC (setP w P sv1 rp1) B P p S q K pv d rv rs e sv1 rp1 := by
 have o := setP_only w P sv1 rp1
 have p1 := range_set h.pc (j := 2) (by simp) sv1
 have t1 := there_set h.pt (h.pc 2 _ rfl) sv1
 have p2 := range_set p1 (j := 3) (by simp) rp1
 have t2 := there_set t1 (p1 3 _ rfl) rp1
 exact
  { pc := p2, pt := t2, pB := h.pB
    dk := h.dk.frame o (fun b g g' => h.a1 (g' ▸ g))
    rf := h.rf.frame o (fun b g g' => h.a2 (g' ▸ g))
    ap := h.ap, a1 := h.a1, a2 := h.a2 }
theorem PlC.fz (h : PlC w B P p S q K pv d rv rs e sv rp) (j : Nat) (hj : j < 4) : w.frozen? ⟨P, j, none⟩ = false := by
 have := (h.pt j hj).2
 rwa [Nat.zero_add] at this
theorem set_none (P : Nat) (e : Int) (he : e ≠ 0) (w : World) (v2 v3 : Value) (c2 : w.cell? ⟨P, 2, none⟩ = some v2) (c3 : w.cell? ⟨P, 3, none⟩ = some v3) (f2 : w.frozen? ⟨P, 2, none⟩ = false) (f3 : w.frozen? ⟨P, 3, none⟩ = false) :
  Calls Tryz.prog 44 #[.pointer (some ⟨P, 0, none⟩), .pointer none, .int .i64 e, .pointer none, .int .i64 e] w fun e w' => e = .returned (.bool true) ∧ w' = setP w P (.pointer none) (.pointer none) := by
 have he' : (e != 0) = true := by simpa using he
 go_enter Tryz.func44, Tryz.ntmps44
 go_wp2
 go_ret
 exact ⟨rfl, rfl⟩
theorem set_some (P s r : Nat) (w : World) (v2 v3 : Value) (c2 : w.cell? ⟨P, 2, none⟩ = some v2) (c3 : w.cell? ⟨P, 3, none⟩ = some v3) (f2 : w.frozen? ⟨P, 2, none⟩ = false) (f3 : w.frozen? ⟨P, 3, none⟩ = false) :
  Calls Tryz.prog 44 #[.pointer (some ⟨P, 0, none⟩), .pointer (some ⟨s, 0, none⟩), .int .i64 0, .pointer (some ⟨r, 0, none⟩), .int .i64 0] w fun e w' => e = .returned (.bool true) ∧ w' = setP w P (.pointer (some ⟨s, 0, none⟩)) (.pointer (some ⟨r, 0, none⟩)) := by
 go_enter Tryz.func44, Tryz.ntmps44
 go_wp2
 go_ret
 exact ⟨rfl, rfl⟩
end
def ldL (q r E : Nat) (tv kv : Value) : List Value := [.pointer (some ⟨q, 0, none⟩), .int .i64 (r : Nat), .int .u64 (E : Nat), tv, kv, .slice none 0 0, .bool false]
structure LtM (w wr : World) (q R N r E : Nat) (f : Nat → Bool) (at_ tab : List Nat) (tv tav : Value) : Prop where
 on : Only (fun _ => False) w wr
 wR : w.heap.size ≤ R
 sz : R + 2 ≤ wr.heap.size
 bx : wr.rangeAt R 0 (ldL q r E tv (.slice none 0 0))
 bt : wr.there R 0 7
 fl : FBlk wr (R + 1) N f
 tb : FreshI wr (R + 2) tv at_
 ta : Fresh wr (R + 2) tav tab
 ne : ∀ b, tv.ownBlock = some b → tav.ownBlock ≠ some b
section
variable {w wr wr' : World} {q R N r E : Nat} {f f' : Nat → Bool} {at_ tab : List Nat} {tv tav : Value}
theorem LtM.still (h : LtM w wr q R N r E f at_ tab tv tav) (ho : Only (fun _ => False) wr wr') : LtM w wr' q R N r E f at_ tab tv tav :=
 { on := h.on.trans ho (fun _ _ e => e), wR := h.wR, sz := Nat.le_trans h.sz ho.size, bx := ho.range h.bx (fun e => e), bt := ho.there h.bt (fun e => e)
   fl := h.fl.frame ho (fun e => e), tb := h.tb.frame ho, ta := ⟨ho.owns h.ta.1 (fun _ _ e => e), h.ta.2⟩, ne := h.ne }
theorem LtM.took (h : LtM w wr q R N r E f at_ tab tv tav) (ho : Only (fun b => b = R + 1) wr wr') (hf : FBlk wr' (R + 1) N f') : LtM w wr' q R N r E f' at_ tab tv tav :=
 { on := h.on.trans ho (fun k hk e => by have := h.wR; omega), wR := h.wR, sz := Nat.le_trans h.sz ho.size, bx := ho.range h.bx (fun e => by omega), bt := ho.there h.bt (fun e => by omega)
   fl := hf, tb := ⟨ho.owns h.tb.1 (fun b e e' => by have := (h.tb.1.lt b e).1; omega), h.tb.2⟩, ta := ⟨ho.owns h.ta.1 (fun b e e' => by have := (h.ta.1.lt b e).1; omega), h.ta.2⟩, ne := h.ne }
theorem LtM.table (h : LtM w wr q R N r E f at_ tab tv tav) (nx : Nat) (hl : at_.length + 1 ≤ 1048576) :
  ∃ a cap w3, (∀ ty, (Builtin.append_ #[76, 76] ty #[tv, .slice (some ⟨wr.heap.size, 0, none⟩) 1 1]).run Tryz.prog (wr.alloc (.cells #[.int .i64 (nx : Int)] 3)) = .ok (.slice a (at_.length + 1) cap) w3) ∧
    (∀ j v, j < 7 → (ldL q r E tv (.slice none 0 0))[j]? = some v → w3.cell? ⟨R, j, none⟩ = some v ∧ w3.frozen? ⟨R, j, none⟩ = false) ∧
    Only (fun i => tv.ownBlock = some i ∨ i = R) wr (w3.setCell ⟨R, 3, none⟩ (.slice a (at_.length + 1) cap)) ∧
    LtM w (w3.setCell ⟨R, 3, none⟩ (.slice a (at_.length + 1) cap)) q R N r E f (at_ ++ [nx]) tab (.slice a (at_.length + 1) cap) tav := by
 obtain ⟨a, cap, w3, hr, hf3, ho3, hbk⟩ := app_int2 h.tb h.sz nx hl
 have nR : ¬ tv.ownBlock = some R := fun e => by have := (h.tb.1.lt R e).1; omega
 have b3 := ho3.range h.bx nR
 have t3 := ho3.there h.bt nR
 have s3 := ho3.size
 have os : Only (fun b => b = R) w3 (w3.setCell ⟨R, 3, none⟩ (.slice a (at_.length + 1) cap)) := (Only.refl _ w3).setCell ⟨R, 3, none⟩ _ (fun _ => rfl)
 have on3 : Only (fun _ => False) w w3 := h.on.trans ho3 (fun k hk e => by have := (h.tb.1.lt k e).1; have := h.wR; omega)
 refine ⟨a, cap, w3, hr, fun j v hj hv => ?_, (ho3.mono (fun _ _ e => .inl e)).trans (os.mono (fun _ _ e => .inr e)) (fun _ _ e => e), ?_⟩
 ·have h1 := b3 j v hv
  rw [Nat.zero_add] at h1
  have h2 := (t3 j hj).2
  rw [Nat.zero_add] at h2
  exact ⟨h1, h2⟩
 ·exact
   { on := on3.trans os (fun k hk e => by have := h.wR; omega), wR := h.wR, sz := by have := os.size; have := h.sz; omega
     bx := range_set b3 (j := 3) (by simp [ldL]) _
     bt := there_set t3 (b3 3 _ rfl) _
     fl := (h.fl.frame ho3 (fun e => by have := (h.tb.1.lt _ e).1; omega)).frame os (fun e => by omega)
     tb := ⟨os.owns hf3.1 (fun b e e' => by have := (hf3.1.lt b e).1; omega), hf3.2⟩
     ta := ⟨os.owns (ho3.owns h.ta.1 (fun b e e' => h.ne b e' e)) (fun b e e' => by have := (h.ta.1.lt b e).1; omega), h.ta.2⟩
     ne := fun b e e' => by
      rcases hbk b e with e2 | e2
      ·exact h.ne b e2 e'
      ·have := (h.ta.1.lt b e').2; omega }
theorem LtM.more (h : LtM w wr q R N r E f at_ tab tv tav) {u : Value} {ys : List Nat} (hu : BytesAt wr u ys) (hl : tab.length + ys.length ≤ 140737488355328) :
  ∃ a cap w3, (∀ ty, (Builtin.append_ #[37, 37] ty #[tav, u]).run Tryz.prog wr = .ok (.slice a (tab.length + ys.length) cap) w3) ∧ Only (fun i => tav.ownBlock = some i) wr w3 ∧
    LtM w w3 q R N r E f at_ (tab ++ ys) tv (.slice a (tab.length + ys.length) cap) := by
 obtain ⟨a, cap, w3, hr, hf3, ho3, hbk⟩ := app_fresh2 h.ta hu h.sz hl
 have nR : ¬ tav.ownBlock = some R := fun e => by have := (h.ta.1.lt R e).1; omega
 have nF : ¬ tav.ownBlock = some (R + 1) := fun e => by have := (h.ta.1.lt _ e).1; omega
 exact ⟨a, cap, w3, hr, ho3,
  { on := h.on.trans ho3 (fun k hk e => by have := (h.ta.1.lt k e).1; have := h.wR; omega), wR := h.wR, sz := Nat.le_trans h.sz ho3.size
    bx := ho3.range h.bx nR, bt := ho3.there h.bt nR, fl := h.fl.frame ho3 nF
    tb := ⟨ho3.owns h.tb.1 (fun b e e' => h.ne b e e'), h.tb.2⟩, ta := hf3
    ne := fun b e e' => by
     rcases hbk b e' with e2 | e2
     ·exact h.ne b e e2
     ·have := (h.tb.1.lt b e).2; omega }⟩
end
def lpC (R : Nat) (tv tav : Value) : Nat → Prop := fun k => k < R + 2 ∨ tv.ownBlock = some k ∨ tav.ownBlock = some k
structure LpM (w wr : World) (q R N r E : Nat) (f : Nat → Bool) (at_ tab : List Nat) (tv tav kv : Value) (lk : List RPg) : Prop where
 on : Only (fun _ => False) w wr
 wR : w.heap.size ≤ R
 sz : R + 2 ≤ wr.heap.size
 bx : wr.rangeAt R 0 (ldL q r E tv kv)
 bt : wr.there R 0 7
 fl : FBlk wr (R + 1) N f
 tb : FreshI wr (R + 2) tv at_
 ta : Fresh wr (R + 2) tav tab
 ks : PgsAt wr (R + 2) (fun k => lpC R tv tav k ∨ kv.ownBlock = some k) kv lk
 n1 : ∀ b, tv.ownBlock = some b → kv.ownBlock ≠ some b
 n2 : ∀ b, tav.ownBlock = some b → kv.ownBlock ≠ some b
section
variable {w wr wr' : World} {q R N r E : Nat} {f f' : Nat → Bool} {at_ tab : List Nat} {tv tav kv : Value} {lk : List RPg}
theorem LtM.lp (h : LtM w wr q R N r E f at_ tab tv tav) : LpM w wr q R N r E f at_ tab tv tav (.slice none 0 0) [] :=
 { on := h.on, wR := h.wR, sz := h.sz, bx := h.bx, bt := h.bt, fl := h.fl, tb := h.tb, ta := h.ta, ks := PgsAt.nil _ _ _
   n1 := fun b _ e => by simp [Value.ownBlock] at e, n2 := fun b _ e => by simp [Value.ownBlock] at e }
theorem LpM.still (h : LpM w wr q R N r E f at_ tab tv tav kv lk) (ho : Only (fun _ => False) wr wr') : LpM w wr' q R N r E f at_ tab tv tav kv lk :=
 { on := h.on.trans ho (fun _ _ e => e), wR := h.wR, sz := Nat.le_trans h.sz ho.size, bx := ho.range h.bx (fun e => e), bt := ho.there h.bt (fun e => e)
   fl := h.fl.frame ho (fun e => e), tb := h.tb.frame ho, ta := ⟨ho.owns h.ta.1 (fun _ _ e => e), h.ta.2⟩
   ks := h.ks.frame ho (fun _ _ e => e) (fun _ _ e => e.elim) (fun _ _ e => e), n1 := h.n1, n2 := h.n2 }
theorem LpM.took (h : LpM w wr q R N r E f at_ tab tv tav kv lk) (ho : Only (fun b => b = R + 1) wr wr') (hf : FBlk wr' (R + 1) N f') : LpM w wr' q R N r E f' at_ tab tv tav kv lk :=
 { on := h.on.trans ho (fun k hk e => by have := h.wR; omega), wR := h.wR, sz := Nat.le_trans h.sz ho.size, bx := ho.range h.bx (fun e => by omega), bt := ho.there h.bt (fun e => by omega)
   fl := hf, tb := ⟨ho.owns h.tb.1 (fun b e e' => by have := (h.tb.1.lt b e).1; omega), h.tb.2⟩, ta := ⟨ho.owns h.ta.1 (fun b e e' => by have := (h.ta.1.lt b e).1; omega), h.ta.2⟩
   ks := h.ks.frame ho (fun b e e' => by have := (h.ks.lt b e).1; omega) (fun k _ e => .inl (.inl (by omega))) (fun _ _ e => e), n1 := h.n1, n2 := h.n2 }
theorem LpM.page (h : LpM w wr q R N r E f at_ tab tv tav kv lk) (i P : Nat) {v : Value} {D : List Nat} (hv : BytesAt wr v D)
  (hd : ∀ b, v.ownBlock = some b → b < wr.heap.size ∧ ¬ (lpC R tv tav b ∨ kv.ownBlock = some b)) (hl : lk.length + 1 ≤ 1000000) :
  ∃ a cap w3, (∀ ty, (Builtin.append_ #[95, 95] ty #[kv, .slice (some ⟨wr.heap.size, 0, none⟩) 1 1]).run Tryz.prog (wr.alloc (.cells #[.int .i64 (i : Nat), .int .i64 (P : Nat), v] 103)) = .ok (.slice a (lk.length + 1) cap) w3) ∧
    (∀ j u, j < 7 → (ldL q r E tv kv)[j]? = some u → w3.cell? ⟨R, j, none⟩ = some u ∧ w3.frozen? ⟨R, j, none⟩ = false) ∧
    LpM w (w3.setCell ⟨R, 4, none⟩ (.slice a (lk.length + 1) cap)) q R N r E f at_ tab tv tav (.slice a (lk.length + 1) cap) (lk ++ [⟨(i : Int), P, D, v⟩]) := by
 obtain ⟨wL, hwL⟩ : ∃ z, z = wr.alloc (.cells #[.int .i64 (i : Nat), .int .i64 (P : Nat), v] 103) := ⟨_, rfl⟩
 have oL : Only (fun _ => False) wr wL := by rw [hwL]; exact (Only.refl _ wr).alloc _
 have hL := h.still oL
 have sL := oL.size
 have hsz := h.sz
 obtain ⟨a3, c3, w3, hr3, hp3, ho3, hb3⟩ := hL.ks.app (C := lpC R tv tav)
  (fun j hj => by
   rcases hj with e | e | e
   ·have := hL.sz; omega
   ·exact (hL.tb.1.lt j e).2
   ·exact (hL.ta.1.lt j e).2)
  hL.sz (.slice (some ⟨wr.heap.size, 0, none⟩) 1 1) [⟨(i : Int), P, D, v⟩]
  (.inr ⟨_, 1, rfl, by rw [hwL]; exact World.news_of_block (heap_alloc_new wr _)⟩)
  (fun y hy => by
   obtain rfl : y = ⟨(i : Int), P, D, v⟩ := by simpa using hy
   exact ⟨hv.keep oL (fun _ _ e => e), fun b hb => ⟨by have := (hd b hb).1; omega, (hd b hb).2⟩⟩)
  (by simp only [List.length_cons, List.length_nil]; omega)
 simp only [List.length_cons, List.length_nil, Nat.zero_add] at hr3 hp3 hb3
 have nR : ¬ kv.ownBlock = some R := fun e => by have := (h.ks.lt R e).1; omega
 have b3 := ho3.range hL.bx nR
 have t3 := ho3.there hL.bt nR
 have s3 := ho3.size
 have os : Only (fun b => b = R) w3 (w3.setCell ⟨R, 4, none⟩ (.slice a3 (lk.length + 1) c3)) := (Only.refl _ w3).setCell ⟨R, 4, none⟩ _ (fun _ => rfl)
 have on3 : Only (fun _ => False) w w3 := hL.on.trans ho3 (fun k hk e => by have := (h.ks.lt k e).1; have := h.wR; omega)
 refine ⟨a3, c3, w3, fun ty => by rw [← hwL]; exact hr3 ty, fun j u hj hu => ?_, ?_⟩
 ·have h1 := b3 j u hu
  rw [Nat.zero_add] at h1
  have h2 := (t3 j hj).2
  rw [Nat.zero_add] at h2
  exact ⟨h1, h2⟩
 ·exact
   { on := on3.trans os (fun k hk e => by have := h.wR; omega), wR := h.wR, sz := by have := os.size; omega
     bx := range_set b3 (j := 4) (by simp [ldL]) _
     bt := there_set t3 (b3 4 _ rfl) _
     fl := (hL.fl.frame ho3 (fun e => by have := (h.ks.lt _ e).1; omega)).frame os (fun e => by omega)
     tb := ⟨os.owns (ho3.owns hL.tb.1 (fun b e e' => h.n1 b e e')) (fun b e e' => by have := (hL.tb.1.lt b e).1; omega), hL.tb.2⟩
     ta := ⟨os.owns (ho3.owns hL.ta.1 (fun b e e' => h.n2 b e e')) (fun b e e' => by have := (hL.ta.1.lt b e).1; omega), hL.ta.2⟩
     ks := hp3.frame os (fun b e e' => by have := (hp3.lt b e).1; omega) (fun k _ e => .inl (.inl (by omega))) (fun _ _ e => e)
     n1 := fun b e e' => by
      rcases hb3 b e' with e2 | e2
      ·exact h.n1 b e e2
      ·have := (hL.tb.1.lt b e).2; omega
     n2 := fun b e e' => by
      rcases hb3 b e' with e2 | e2
      ·exact h.n2 b e e2
      ·have := (hL.ta.1.lt b e).2; omega }
def RlIs (w : World) (q : Nat) (y : Option SS) (e : Ending) (w' : World) : Prop :=
 Only (fun _ => False) w w' ∧ match y with
 | none => e = .returned (.pointer none)
 | some x => ∃ R tv kv nv lk ln, e = .returned (.pointer (some ⟨R, 0, none⟩)) ∧ w.heap.size ≤ R ∧ ∀ (rk : Nat → Prop) (B : Nat), (∀ k, rk k → k < w.heap.size) → B ≤ w.heap.size → RsAt w' rk B R q tv kv nv x lk ln
theorem LpM.done (h : LpM w wr q R N r E f at_ tab tv tav kv lk) {n c : Nat} {a : Option Addr} {ys : List RPg} (hp : PgsAt wr' wr.heap.size (fun k => k < wr.heap.size ∨ (Value.slice a n c).ownBlock = some k) (.slice a n c) ys) (hy : ys.map RPg.p = lk.map RPg.p) (ho : Only (fun _ => False) wr wr') {x : SS}
  (hx : x = ⟨x.size, E, 4 * r, at_, lk.map RPg.p, lk.map RPg.p⟩) (hR : Rise x.com) (hW : x.Wf) :
  Only (fun _ => False) w (wr'.setCell ⟨R, 5, none⟩ (.slice a n c)) ∧ ∀ (rk : Nat → Prop) (B : Nat), (∀ k, rk k → k < w.heap.size) → B ≤ w.heap.size → RsAt (wr'.setCell ⟨R, 5, none⟩ (.slice a n c)) rk B R q tv kv (.slice a n c) x lk ys := by
 have h' := h.still ho
 have hsz := h.sz
 have hwR := h.wR
 have os : Only (fun b => b = R) wr' (wr'.setCell ⟨R, 5, none⟩ (.slice a n c)) := (Only.refl _ wr').setCell ⟨R, 5, none⟩ _ (fun _ => rfl)
 have hos := os.size
 have hho := ho.size
 have nR : ∀ b, (Value.slice a n c).ownBlock = some b → wr.heap.size ≤ b := fun b e => (hp.lt b e).1
 refine ⟨h'.on.trans os (fun k hk e => by omega), fun rk B hrk hB => ?_⟩
 have hmu : ∀ k, k < wr'.heap.size → muR rk R (.slice a n c) k → k < R + 2 ∨ wr.heap.size ≤ k := by
  rintro k hk (e | e | e)
  ·exact .inl (by omega)
  ·exact .inr (nR k e)
  ·have := hrk k e; exact .inl (by omega)
 have e1 : x.sector / 4 = r := by rw [hx]; simp
 have e2 : x.epoch = E := by rw [hx]
 have e3 : x.tabs = at_ := by rw [hx]
 have e4 : x.com = lk.map RPg.p := by rw [hx]
 have e5 : x.now = lk.map RPg.p := by rw [hx]
 exact
  { cells := by
     have := range_set h'.bx (j := 5) (by simp [ldL]) (.slice a n c)
     rw [rsL, e1, e2]
     exact this
    there := there_set h'.bt (h'.bx 5 _ rfl) _
    rB := by omega
    k1 := fun e => by have := hrk _ e; omega
    k2 := fun b e => ⟨by have := nR b e; omega, fun e' => by have := hrk _ e'; have := nR b e; omega⟩
    tabs := by
     rw [e3]
     exact h'.tb.rowInts.keep os (fun b e e' => by have := (h'.tb.1.lt b e).1; omega)
    tabsB := fun b e => ⟨by have := (h'.tb.1.lt b e).2; omega, fun e' => by
     have l1 := h.tb.1.lt b e
     have := (h'.tb.1.lt b e).2
     rcases hmu b this e' with g | g <;> omega⟩
    keptB := fun b e e' => by
     have l1 := h.ks.lt b e
     have := (h'.ks.lt b e).2
     rcases hmu b this e' with g | g <;> omega
    kept := by
     have := h.ks.frame ho (av' := muR rk R (.slice a n c)) (fun _ _ e => e) (fun _ _ e => e.elim) (fun k hk e => by
      rcases hmu k (by omega) e with g | g
      ·exact .inl (.inl g)
      ·omega)
     have := this.frame os (av' := muR rk R (.slice a n c)) (fun b e e' => by have := (h.ks.lt b e).1; omega) (fun k _ e => .inl e) (fun _ _ e => e)
     exact ⟨ownsRow_base this.own (by omega), this.dat⟩
    now := by
     have := hp.frame os (av' := muR rk R (.slice a n c)) (fun b e e' => by have := nR b e; omega) (fun k _ e => .inl (by omega)) (fun k hk e => by
      rcases e with e | e | e
      ·exact .inl (by omega)
      ·exact .inr e
      ·have := hrk k e; exact .inl (by omega))
     exact ⟨ownsRow_base this.own (by omega), this.dat⟩
    comE := e4.symm
    nowE := by rw [hy, e5]
    comR := hR
    nowR := by rw [e5, ← e4]; exact hR
    wf := hW }
end
theorem ld_cases {d : DS} {q : Nat} (hok : rtOk (secN (d.sec q)) = true) {X : Option ((Nat → Bool) × Nat × List Nat × List Nat)} (hX : X = dtR d (rtC (secN (d.sec q))) (fun _ => false) (rtF (secN (d.sec q))) [] []) :
  (X = none → loadD d q = none) ∧ (∀ g n a t, X = some (g, n, a, t) → n ≠ 0 → loadD d q = none) ∧
  (∀ g a t, X = some (g, 0, a, t) → loadD d q = (dpR d t (t.length + 1) g 0 []).map fun m => ⟨d.n / 4, rtE (secN (d.sec q)), q, a, m, m⟩) := by
 unfold loadD
 rw [if_pos hok, ← hX]
 refine ⟨fun e => by rw [e], fun g n a t e hn => ?_, fun g a t e => ?_⟩
 ·rw [e]
  exact if_neg hn
 ·rw [e]
  exact if_pos rfl
theorem dp_rise {d : DS} {tab : List Nat} : ∀ (k : Nat) (f : Nat → Bool) (pos : Nat) (m M : Pgs), Rise m → (∀ p ∈ m, p.1 ≤ lastI m) → dpR d tab k f pos m = some M → Rise M
 | 0, f, pos, m, M, _, _, h => by rw [dpR] at h; cases h
 | k + 1, f, pos, m, M, hm, hl, h => by
   by_cases hp : tab.length ≤ pos
   ·rw [dpR_end hp] at h
    cases h
    exact hm
   ·cases h1 : rd tab pos 0 0 with
    | none => rw [dpR_none1 hp h1] at h; cases h
    | some x1 =>
      obtain ⟨i, q⟩ := x1
      cases h2 : rd tab q 0 0 with
      | none => rw [dpR_none2 hp h1 h2] at h; cases h
      | some x2 =>
        obtain ⟨P, z⟩ := x2
        by_cases hc : 728 ≤ i ∨ (i : Int) ≤ lastI m ∨ tkOk (d.n / 4) f P = false
        ·rw [dpR_bad hp h1 h2 hc] at h; cases h
        ·cases h4 : ldD d P (3 + 256 * i) with
         | none => rw [dpR_not hp h1 h2 h4] at h; cases h
         | some D =>
           rw [dpR_go hp h1 h2 hc h4] at h
           have hlt : ∀ p ∈ m, p.1 < (i : Int) := fun p hp => by have := hl p hp; omega
           refine dp_rise k _ _ _ _ ?_ (fun p hp => ?_) h
           ·unfold Rise at hm ⊢
            refine List.pairwise_append.2 ⟨hm, List.pairwise_singleton _ _, fun a ha b hb => ?_⟩
            simp only [List.mem_cons, List.not_mem_nil, or_false] at hb
            rw [hb]
            exact hlt a ha
           ·rw [lastI_snoc]
            rcases List.mem_append.1 hp with hp | hp
            ·have := hlt p hp; simp only; omega
            ·simp only [List.mem_cons, List.not_mem_nil, or_false] at hp; rw [hp]; exact Int.le_refl _
theorem RlIs.no {w w' : World} {q : Nat} {y : Option SS} (hy : y = none) (ho : Only (fun _ => False) w w') : RlIs w q y (.returned (.pointer none)) w' := by
 rw [hy]
 exact ⟨ho, rfl⟩
theorem lastI_map (l : List RPg) (h : 0 < l.length) : lastI (l.map RPg.p) = (l[l.length - 1]'(by omega)).i := by
 unfold lastI
 rw [List.getLast?_eq_getElem?]
 simp only [List.length_map]
 rw [List.getElem?_eq_getElem (by simp; omega)]
 simp [RPg.p]
end Go.Proofs.YtlcglapcmdpkfaaGreat
namespace Go.Proofs.YtlcglapcmdpkfaaGreat
open Go.RowKit
set_option linter.unusedSimpArgs false
set_option linter.unusedVariables false
set_option maxRecDepth 100000
set_option maxHeartbeats 16000000
theorem rnread_any (v : Value) (p : Nat) (zs : List Nat) (w : World) (h : BytesAt w v zs) (hp : p ≤ zs.length) :
  Calls Tryz.prog 101 #[v, .int .i64 p] w fun e w' => e = .returned (rdV (rd zs p 0 0)) ∧ w' = w := by
 obtain ⟨a, c, rfl, hcap, hc⟩ := h.form
 have hlt := h.2.2
 have HL : Hid (∀ z ∈ zs, z < 256) := hlt
 have HC : Hid _ := hc
 obtain ⟨n, hn⟩ : ∃ m, m = zs.length := ⟨_, rfl⟩
 have HM : Hid (n = zs.length) := hn
 have hn2 : n ≤ 140737488355328 := hn ▸ h.2.1
 rw [← hn] at hp
 rw [← hn]
 have p0 : (0 : Int) ≤ (p : Int) := by omega
 have p1 : ¬ (n : Int) < (p : Int) := by omega
 clear h hc hlt hn hcap
 go_enter Tryz.func101, Tryz.ntmps101
 go_wp2_with fail
 go_loopw [7, 8] (fun r t wr => ∃ i m : Nat, i ≤ 9 ∧ p + i ≤ n ∧ t = .int .i64 (i : Nat) ∧ r = .int .u64 (m : Nat) ∧ m < 2 ^ (7 * i) ∧ rd zs p i m = rd zs p 0 0 ∧ w = wr) (fun _ t _ => 9 - (intOf t).toNat)
 case atStart => exact ⟨0, 0, by omega, by omega, rfl, rfl, by decide, rfl, rfl⟩
 case round =>
  obtain ⟨i, m, hi, hpi, rfl, rfl, hm, hrd, rfl⟩ := hrel
  have HRD : Hid (rd zs p i m = rd zs p 0 0) := hrd
  clear hrd
  by_cases hi9 : i < 9
  ·have i0 : (0 : Int) ≤ (i : Int) := by omega
   have i1 : (i : Int) < 9 := by omega
   have hwp : IntKind.i64.wrap ((p : Int) + (i : Int)) = (p : Int) + (i : Int) := by rw [IntKind.wrap_i64]; omega
   by_cases hz : p + i < n
   ·have hz1 : ¬ (n : Int) ≤ (p : Int) + (i : Int) := by omega
    have hz2 : (p : Int) + (i : Int) < (n : Int) := by omega
    have hz3 : (0 : Int) ≤ (p : Int) + (i : Int) := by omega
    have htn : ((p : Int) + (i : Int)).toNat = p + i := by omega
    obtain ⟨g, o, rfl, hcell⟩ := HC.out (p + i) (by have := HM.out; omega)
    have hc8 := getD_lt HL.out (p + i)
    obtain ⟨z, hzz⟩ : ∃ z, z = zs.getD (p + i) 0 := ⟨_, rfl⟩
    rw [← hzz] at hc8 hcell
    have hst := step_lt (c := z) hm
    have hpw := pow_le (i := i + 1) (by omega)
    have hm7 : IntKind.i64.wrap (7 * (i : Int)) = 7 * (i : Int) := by rw [IntKind.wrap_i64]; omega
    have ht7 : (7 * (i : Int)).toNat = 7 * i := by omega
    obtain ⟨s, hs⟩ : ∃ s, s = 7 * i := ⟨_, rfl⟩
    have hs7 : 7 * (i : Int) = (s : Int) := by omega
    have s1 : (s : Int) < 63 := by omega
    have s0 : (0 : Int) ≤ (s : Int) := by omega
    rw [hs7] at hm7
    have HS7 : Hid (7 * (i : Int) = (s : Int)) := hs7
    obtain ⟨e, he⟩ : ∃ e, e = z % 128 := ⟨_, rfl⟩
    have hei : (z : Int) % 128 = (e : Int) := by omega
    rw [← he] at hst
    obtain ⟨d, hd⟩ : ∃ d, d = e * 2 ^ s := ⟨_, rfl⟩
    rw [← hs, ← hd] at hst
    have he8 : e < 128 := by omega
    have hd2 : (e : Int) * 2 ^ s = (d : Int) := by rw [hd]; simp
    have hdlt : d < 9223372036854775808 := by omega
    have hwr : IntKind.u64.wrap (d : Int) = (d : Int) := by simp [IntKind.wrap, IntKind.bits, IntKind.signed]; omega
    have hadd : IntKind.u64.wrap ((m : Int) + (d : Int)) = ((m + d : Nat) : Int) := by simp [IntKind.wrap, IntKind.bits, IntKind.signed]; omega
    have HD : Hid (m + z % 128 * 2 ^ (7 * i) = m + d) := (by rw [hd, he, hs] : m + z % 128 * 2 ^ (7 * i) = m + d)
    have HST : Hid (m + d < 2 ^ (7 * (i + 1))) := hst
    have HKZ : Hid (zs.getD (p + i) 0 = z) := hzz.symm
    clear hzz hd he hst hs hpw hm ht7
    by_cases hc1 : z < 128
    ·have z1 : ¬ (128 : Int) ≤ (z : Int) := by omega
     have HLL : Hid _ := rd_last (n := m) hi9 (HM.out ▸ hz) HKZ.out hc1
     by_cases hz0 : z = 0
     ·have zz : ((z : Int) == 0) = true := by simp [hz0]
      have HZ0 : Hid (z = 0) := hz0
      clear hz0
      by_cases hi0 : i = 0
      ·have ss : ¬ (0 : Int) < (i : Int) := by omega
       have HI0 : Hid (i = 0) := hi0
       clear hi0
       go_wp2
       go_ret3
       refine ⟨?_, rfl⟩
       rw [← HRD.out, HLL.out, if_neg (by have := HI0.out; omega), HD.out]
       rfl
      ·have ss : (0 : Int) < (i : Int) := by omega
       go_wp2
       go_ret3
       refine ⟨?_, rfl⟩
       rw [← HRD.out, HLL.out, if_pos ⟨HZ0.out, by omega⟩]
       rfl
     ·have zz : ((z : Int) == 0) = false := by simp [hz0]
      go_wp2
      go_ret3
      refine ⟨?_, rfl⟩
      rw [← HRD.out, HLL.out, if_neg (by omega), HD.out]
      rfl
    ·have z1 : (128 : Int) ≤ (z : Int) := by omega
     go_wp2
     go_roundw
     case rel =>
      refine ⟨i + 1, m + d, by omega, by omega, by go_num, rfl, HST.out, ?_, trivial⟩
      rw [← HRD.out, rd_more hi9 (HM.out ▸ hz) HKZ.out hc1, HD.out]
     case measure => simp [intOf]; omega
   ·have hz1 : (n : Int) ≤ (p : Int) + (i : Int) := by omega
    clear hm
    go_wp2
    go_ret3
    refine ⟨?_, rfl⟩
    rw [← HRD.out, rd_end hi9 (by have := HM.out; omega)]
    rfl
  ·obtain rfl : i = 9 := by omega
   clear hm
   go_wp2
   go_ret3
   refine ⟨?_, rfl⟩
   rw [← HRD.out, rd_nine (by omega)]
   rfl
end Go.Proofs.YtlcglapcmdpkfaaGreat
