import Derived.Test.YtlcglapcmdpkfaaGreatG31
import Derived.Deep.CutRange
import Derived.BigQuiet
import Derived.OpenShut
import Derived.Deep.RegionHeld3
namespace Go.Proofs.YtlcglapcmdpkfaaGreat
open Go.RowKit Go.Maps
set_option linter.unusedSimpArgs false
set_option linter.unusedVariables false
theorem RsAt.empty {w : World} {rk rk' : Nat → Prop} {B r q : Nat} {x : SS} (h : RsAt w rk B r q (.slice none 0 0) (.slice none 0 0) (.slice none 0 0) x [] []) (hr : ¬ rk' r) : RsAt w rk' B r q (.slice none 0 0) (.slice none 0 0) (.slice none 0 0) x [] [] :=
 { cells := h.cells, there := h.there, rB := h.rB, k1 := hr, k2 := fun b g => by simp [Value.ownBlock] at g, tabs := h.tabs, tabsB := fun b g => by simp [Value.ownBlock] at g, keptB := fun b g => by simp [Value.ownBlock] at g
   kept := PgsAt.nil _ _ _, now := PgsAt.nil _ _ _, comE := h.comE, nowE := h.nowE, comR := h.comR, nowR := h.nowR, wf := h.wf }
section
variable {w w1 w2 : World} {B P p S q K N m s mc mn r : Nat} {pv pv' rv rv' sv rp tv tr kr nv : Value} {rs rs' : List RW} {d e : DS} {x : SS} {lk ln : List RPg}
theorem PlC.gone (h : PlC w B P p S q K pv d rv rs d sv rp) (hf : Fd d N m) : PlOk (setP w P (.pointer none) (.pointer none)) B P p S q K N m ∧ Only (fun k => B ≤ k) w (setP w P (.pointer none) (.pointer none)) :=
 ⟨⟨pv, d, rv, rs, _, _, h.set, .inl ⟨rfl, rfl⟩, hf⟩, (setP_only w P _ _).mono (fun k _ g => by have := h.pB; omega)⟩
theorem PlC.new (h : PlC w B P p S q K pv d rv rs d sv rp) (hd : Duo w B P p S q K pv s mc mn tv x rv rs r tr kr nv x lk ln) (hx : x.size = N / 4) (hf : Fd d N m) : PlOk (setP w P (.pointer (some ⟨s, 0, none⟩)) (.pointer (some ⟨r, 0, none⟩))) B P p S q K N m ∧ Only (fun k => B ≤ k) w (setP w P (.pointer (some ⟨s, 0, none⟩)) (.pointer (some ⟨r, 0, none⟩))) :=
 ⟨⟨pv, d, rv, rs, _, _, h.set, .inr (.inr ⟨s, r, mc, mn, tv, tr, kr, nv, x, lk, ln, rfl, rfl, hx, hd.disks ((setP_only w P _ _).mono (fun _ _ g => .inl g)) (fun b g => .inl g) (fun b g => .inl g)⟩), hf⟩, (setP_only w P _ _).mono (fun k _ g => by have := h.pB; omega)⟩
theorem duo_format (hc : PlC w1 B P p S q K pv' e rv rs d sv rp) (hs : StAt w1 (dkE (fun k => k = P ∨ refB q K rv rs k) p S pv') s p mc mn (.slice none 0 0) x) (hm : MidR w1 B q K rv rs e w2 rv' rs') (hr : RsAt w2 (refB q K rv' rs') B r q (.slice none 0 0) (.slice none 0 0) (.slice none 0 0) x [] []) (hr1 : w1.heap.size ≤ r) (sB : B ≤ s) (cB : B ≤ mc) (nB : B ≤ mn) :
  Duo w2 B P p S q K pv' s mc mn (.slice none 0 0) x rv' rs' r (.slice none 0 0) (.slice none 0 0) (.slice none 0 0) x [] [] :=
 { st := hs.frame hm.ho (fun k hk g => .inr (.inr g)) (fun k hk g => by
    rcases g with g | g | g | g | g
    ·exact .inl g
    ·exact .inr (.inl g)
    ·rcases hm.sub k g with g | g
     ·exact .inr (.inr g)
     ·omega
    ·omega
    ·simp [Value.ownBlock] at g)
   rt := hr.empty (by
    rintro (g | ⟨g, _⟩)
    ·exact hr.k1 g
    ·rcases g with g | g | g | g | g
     ·have := hc.lt; omega
     ·have := (hc.dk.lt r g).2; omega
     ·have := hs.lt; omega
     ·have := hs.com.lt; omega
     ·have := hs.now.lt; omega)
   sB := sB, cB := cB, nB := nB }
theorem duo_open (hc : PlC w1 B P p S q K pv d rv rs d sv rp) (hs : StAt w1 (dkE (fun k => k = P ∨ refB q K rv rs k) p S pv) s p mc mn tv x) (ho : Only (fun _ => False) w1 w2) (hr : ∀ (rk : Nat → Prop) (B : Nat), (∀ k, rk k → k < w1.heap.size) → B ≤ w1.heap.size → RsAt w2 rk B r q tr kr nv x lk ln) (hr1 : w1.heap.size ≤ r) (hB : B ≤ w1.heap.size) (sB : B ≤ s) (cB : B ≤ mc) (nB : B ≤ mn) :
  Duo w2 B P p S q K pv s mc mn tv x rv rs r tr kr nv x lk ln := by
 have hnv : ∀ k, nv.ownBlock = some k → ¬ k < w1.heap.size := fun k g => ((hr (fun k => k < w1.heap.size) B (fun _ g => g) hB).k2 k g).2
 have hE : ∀ k, eR P p S pv s mc mn k → k < w1.heap.size := by
  rintro k (g | g | g | g | g)
  ·have := hc.lt; omega
  ·exact (hc.dk.lt k g).2
  ·have := hs.lt; omega
  ·have := hs.com.lt; omega
  ·have := hs.now.lt; omega
 exact
  { st := hs.frame ho (fun k hk g => g.elim) (fun k hk g => by
     rcases g with g | g | g | g | g
     ·exact .inl g
     ·exact .inr (.inl g)
     ·exact .inr (.inr g)
     ·omega
     ·exact absurd hk (hnv k g))
    rt := hr _ B (fun k g => by
     rcases g with g | g
     ·exact (hc.rf.lt k g).2
     ·exact hE k g.1) hB
    sB := sB, cB := cB, nB := nB }
end
set_option maxRecDepth 100000 in
set_option maxHeartbeats 4000000 in
theorem disk_format {w0 w : World} {B P p S q K N m : Nat} (h : PlOk w B P p S q K N m) (h0 : Only (fun _ => False) w0 w) (hB : B = w0.heap.size) (hm : m ≤ 8589934592) (i n cut : Int) (vb vk : Value) :
  Calls Tryz.prog 15 #[.pointer (some ⟨P, 0, none⟩), .agg #[.int .i64 9, .int .i64 i, .int .i64 n, .int .i64 cut, vb, vk]] w fun e w' => e = .returned (.bool true) ∧ Hid (PlOk w' B P p S q K N (m + 4000) ∧ Only (fun k => B ≤ k) w w') := by
 obtain ⟨pv, d, rv, rs, sv, rp, hc, hk, hf⟩ := h
 obtain ⟨wx, hwx⟩ : ∃ z, z = w.alloc (.cells #[.int .i64 9, .int .i64 i, .int .i64 n, .int .i64 cut, vb, vk] 40) := ⟨_, rfl⟩
 obtain ⟨Bx, hBx⟩ : ∃ z, z = w.heap.size := ⟨_, rfl⟩
 have oX : Only (fun _ => False) w wx := by rw [hwx]; exact (Only.refl _ w).alloc _
 have bX : wx.heap[Bx]? = some (.cells #[.int .i64 9, .int .i64 i, .int .i64 n, .int .i64 cut, vb, vk] 40 (0, 0)) := by rw [hwx, hBx]; exact heap_alloc_new w _
 have x0 : wx.cell? ⟨Bx, 0, none⟩ = some (.int .i64 9) := by rw [cell_of_row _ _ _ _ _ _ bX]; rfl
 have x1 : wx.cell? ⟨Bx, 1, none⟩ = some (.int .i64 i) := by rw [cell_of_row _ _ _ _ _ _ bX]; rfl
 have x2 : wx.cell? ⟨Bx, 2, none⟩ = some (.int .i64 n) := by rw [cell_of_row _ _ _ _ _ _ bX]; rfl
 have x3 : wx.cell? ⟨Bx, 3, none⟩ = some (.int .i64 cut) := by rw [cell_of_row _ _ _ _ _ _ bX]; rfl
 have x4 : wx.cell? ⟨Bx, 4, none⟩ = some (vb) := by rw [cell_of_row _ _ _ _ _ _ bX]; rfl
 have x5 : wx.cell? ⟨Bx, 5, none⟩ = some (vk) := by rw [cell_of_row _ _ _ _ _ _ bX]; rfl
 have hcx : PlC wx B P p S q K pv d rv rs d sv rp := hc.still oX
 have hkx : StK wx B P p S q K pv rv rs N sv rp := hk.disks (oX.mono (fun _ _ g => g.elim)) (fun b g => .inl g) (fun b g => .inl g)
 have hX : Bx < wx.heap.size ∧ ¬ diskB p S pv Bx ∧ ¬ refB q K rv rs Bx := ⟨by rw [hwx, hBx]; simp, fun g => by have := (hc.dk.lt _ g).2; omega, fun g => by have := (hc.rf.lt _ g).2; omega⟩
 have z0 : wx.cell? ⟨P, 0, none⟩ = some (.pointer (some ⟨p, 0, none⟩)) := hcx.pc 0 _ rfl
 have z1 : wx.cell? ⟨P, 1, none⟩ = some (.pointer (some ⟨q, 0, none⟩)) := hcx.pc 1 _ rfl
 have z2 : wx.cell? ⟨P, 2, none⟩ = some sv := hcx.pc 2 _ rfl
 have z3 : wx.cell? ⟨P, 3, none⟩ = some rp := hcx.pc 3 _ rfl
 have O0 : Hid (Only (fun _ => False) w0 wx) := h0.trans oX (fun _ _ g => g)
 have OX : Hid (Only (fun _ => False) w wx) := oX
 have HW : Hid (wx = w.alloc (.cells #[.int .i64 9, .int .i64 i, .int .i64 n, .int .i64 cut, vb, vk] 40)) := hwx
 have HX : Hid (Bx = w.heap.size) := hBx
 have oD : Only (fun _ => False) wx wx.drew := (Only.refl _ wx).drew
 have hkd : StK wx.drew B P p S q K pv rv rs N sv rp := hkx.disks (oD.mono (fun _ _ g => g.elim)) (fun b g => .inl g) (fun b g => .inl g)
 have hcd : PlC wx.drew B P p S q K pv d rv rs d sv rp := hcx.still oD
 have hpd := hf.pd
 have zw0 : w.cell? ⟨P, 0, none⟩ = some (.pointer (some ⟨p, 0, none⟩)) := hc.pc 0 _ rfl
 clear hwx hBx bX hc hk
 have hBw : B ≤ wx.heap.size := by have := hcx.pB; have := hcx.lt; omega
 have HF : Hid (Calls Tryz.prog 11 #[.pointer (some ⟨p, 0, none⟩)] wx fun e w' => Hid (FmIs (fun k => k = P ∨ refB q K rv rs k) wx B p S pv d e w')) := format_all p S B pv d wx hcx.dk hBw (by omega) (fun k g => by
  rcases g with g | g
  ·have := hcx.lt; omega
  ·exact (hcx.rf.lt k g).2)
 have HF2 : Hid (∀ w1, RefAt w1 B q K rv d rs → B ≤ w1.heap.size → Calls Tryz.prog 43 #[.pointer (some ⟨q, 0, none⟩)] w1 fun e w' => Hid (RFmIs w1 B q K rv rs d e w')) := fun w1 hr hb => rformat_any hr hb hf.gd (by omega)
 have HC : Hid (PlC wx B P p S q K pv d rv rs d sv rp ∧ B ≤ wx.heap.size) := ⟨hcx, hBw⟩
 have HFd : Hid (Fd d.format.2 N (m + 4000) ∧ d.n = N) := ⟨hf.format.mono (by omega), hf.n_⟩
 clear hBw
 clear hcx hkx hX O0 oD hkd hcd hpd oX h0 hf hB x1 x2 x3 x4 x5 z2 z3
 go_enter Tryz.func15, Tryz.ntmps15
 go_upto_region 9 with fail
 rw [← HW.out, ← HX.out]
 go_wp2_with fail
 refine (show Calls Tryz.prog 11 _ _ _ from HF.out).mono ?_
 rintro e w1 H1
 clear HF
 rcases H1.out with ⟨h0, rfl, pv', g1, g2, g3⟩ | ⟨h0, s, mc, mn, pv', rfl, g1, gs, g2, g3, l1, l2, l3⟩
 ·have c1 : PlC w1 B P p S q K pv' d.format.2 rv rs d sv rp := HC.out.1.prog (X := fun _ => False) g1 (g2.mono (fun _ _ g => .inl g)) (fun _ g => g.elim) g3
  have hs1 := g2.size
  have H2 : Hid (Calls Tryz.prog 43 _ _ _) := HF2.out w1 c1.rf (by have := HC.out.2; omega)
  have y1 : w1.cell? ⟨P, 1, none⟩ = some (.pointer (some ⟨q, 0, none⟩)) := c1.pc 1 _ rfl
  have HC1 : Hid _ := c1
  have G2 : Hid (Only (fun k => B ≤ k) w w1) := (OX.out.mono (fun _ _ g => g.elim)).trans (g2.mono (fun k _ g => (HC.out.1.dk.lt k g).1)) (fun _ _ g => g)
  have H0 : Hid (d.format.1 ≠ 0) := h0
  obtain ⟨ec, hec⟩ : ∃ ec : Int, ec = (if d.n / 4 < 3 then 7 else 3) := ⟨_, rfl⟩
  have HEC : Hid (ec = (if d.n / 4 < 3 then 7 else 3)) := hec
  rw [← hec]
  have hec0 : ec ≠ 0 := by rw [hec]; split <;> omega
  clear c1 g1 g2 g3 h0 HF2 H1 hec hs1 z0 z1 x0
  go_wp2_with fail
  refine (show Calls Tryz.prog 43 _ _ _ from H2.out).mono ?_
  rintro e w2 H3
  clear H2 y1
  rcases H3.out with ⟨h0', rfl, rv', rs', hm⟩ | ⟨h0', _⟩
  ·rw [← HEC.out]
   have c2 : PlC w2 B P p S q K pv' d.format.2 rv' rs' d.format.2 sv rp := HC1.out.doc (X := fun _ => False) hm.ref (hm.ho.mono (fun _ _ g => .inl g)) (fun _ g => g.elim) hm.sub
   have HS := set_none P ec hec0 w2 _ _ (c2.pc 2 _ rfl) (c2.pc 3 _ rfl) (c2.fz 2 (by omega)) (c2.fz 3 (by omega))
   have hq := c2.gone HFd.out.1
   have HQ : Hid (PlOk (setP w2 P (.pointer none) (.pointer none)) B P p S q K N (m + 4000) ∧ Only (fun k => B ≤ k) w (setP w2 P (.pointer none) (.pointer none))) := ⟨hq.1, (G2.out.trans (hm.ho.mono (fun k _ g => (HC1.out.rf.lt k g).1)) (fun _ _ g => g)).trans hq.2 (fun _ _ g => g)⟩
   clear c2 hq hm H3 h0'
   go_wp2_with fail
   refine HS.mono ?_
   rintro e w3 ⟨rfl, rfl⟩
   clear HS
   go_wp2
   go_ret
   exact ⟨rfl, HQ⟩
  ·exact absurd h0' H0.out
 ·have c1 : PlC w1 B P p S q K pv' d.format.2 rv rs d sv rp := HC.out.1.prog (X := fun _ => False) g1 (g2.mono (fun _ _ g => .inl g)) (fun _ g => g.elim) g3
  have hs1 := g2.size
  have H2 : Hid (Calls Tryz.prog 43 _ _ _) := HF2.out w1 c1.rf (by have := HC.out.2; omega)
  have y1 : w1.cell? ⟨P, 1, none⟩ = some (.pointer (some ⟨q, 0, none⟩)) := c1.pc 1 _ rfl
  have HC1 : Hid _ := c1
  have HSt : Hid _ := gs
  have HL : Hid (B ≤ s ∧ B ≤ mc ∧ B ≤ mn) := by have := HC.out.2; exact ⟨by omega, by omega, by omega⟩
  have G2 : Hid (Only (fun k => B ≤ k) w w1) := (OX.out.mono (fun _ _ g => g.elim)).trans (g2.mono (fun k _ g => (HC.out.1.dk.lt k g).1)) (fun _ _ g => g)
  have H0 : Hid (d.format.1 = 0) := h0
  clear c1 g1 g2 g3 h0 HF2 H1 hs1 gs l1 l2 l3 z0 z1 x0
  go_wp2_with fail
  refine (show Calls Tryz.prog 43 _ _ _ from H2.out).mono ?_
  rintro e w2 H3
  clear H2 y1
  rcases H3.out with ⟨h0', _⟩ | ⟨h0', r, rfl, hr1, rv', rs', hm, hr⟩
  ·exact absurd H0.out h0'
  ·have c2 : PlC w2 B P p S q K pv' d.format.2 rv' rs' d.format.2 sv rp := HC1.out.doc (X := fun _ => False) hm.ref (hm.ho.mono (fun _ _ g => .inl g)) (fun _ g => g.elim) hm.sub
   have HS := set_some P s r w2 _ _ (c2.pc 2 _ rfl) (c2.pc 3 _ rfl) (c2.fz 2 (by omega)) (c2.fz 3 (by omega))
   have hq := c2.new (duo_format HC1.out HSt.out hm hr hr1 HL.out.1 HL.out.2.1 HL.out.2.2) (by rw [← HFd.out.2]; rfl) HFd.out.1
   have HQ : Hid (PlOk (setP w2 P (.pointer (some ⟨s, 0, none⟩)) (.pointer (some ⟨r, 0, none⟩))) B P p S q K N (m + 4000) ∧ Only (fun k => B ≤ k) w (setP w2 P (.pointer (some ⟨s, 0, none⟩)) (.pointer (some ⟨r, 0, none⟩)))) := ⟨hq.1, (G2.out.trans (hm.ho.mono (fun k _ g => (HC1.out.rf.lt k g).1)) (fun _ _ g => g)).trans hq.2 (fun _ _ g => g)⟩
   clear c2 hq hm H3 h0' hr hr1
   go_wp2_with fail
   refine HS.mono ?_
   rintro e w3 ⟨rfl, rfl⟩
   clear HS
   go_wp2
   go_ret
   exact ⟨rfl, HQ⟩
def opE (d : DS) : Int := if d.life = 0 then 3 else 6
def opS (d : DS) : Option SS := if d.life = 0 ∨ d.n / 4 < 3 then none else openR d
def OpAll (w : World) (dk : Nat → Prop) (p : Nat) (d : DS) (e : Ending) (w' : World) : Prop :=
 Only (fun _ => False) w w' ∧ match opS d with
 | none => e = .returned (.tuple #[.pointer none, .int .i64 (opE d)])
 | some x => ∃ s mc mn tv, e = .returned (.tuple #[.pointer (some ⟨s, 0, none⟩), .int .i64 0]) ∧ StAt w' dk s p mc mn tv x ∧ w.heap.size ≤ s ∧ w.heap.size ≤ mc ∧ w.heap.size ≤ mn
def ROpAll (w : World) (q : Nat) (d : DS) (e : Ending) (w' : World) : Prop :=
 Only (fun _ => False) w w' ∧ match opS d with
 | none => e = .returned (.tuple #[.pointer none, .int .i64 (opE d)])
 | some x => ∃ R tv kv nv lk ln, e = .returned (.tuple #[.pointer (some ⟨R, 0, none⟩), .int .i64 0]) ∧ w.heap.size ≤ R ∧ ∀ (rk : Nat → Prop) (B : Nat), (∀ k, rk k → k < w.heap.size) → B ≤ w.heap.size → RsAt w' rk B R q tv kv nv x lk ln
theorem open_all {w : World} {B p S : Nat} {pv : Value} {d : DS} (h : DiskAt w B p S pv d) (hb : ByteD d) (dk : Nat → Prop) (hdk : ∀ k, dk k → k < w.heap.size) : Calls Tryz.prog 45 #[.pointer (some ⟨p, 0, none⟩)] w fun e w' => Hid (OpAll w dk p d e w') := by
 by_cases hl : d.life = 0
 ·refine (open_dead p S B pv d w h hl).mono ?_
  rintro e w' ⟨rfl, rfl⟩
  refine ⟨Only.refl _ _, ?_⟩
  simp [opS, opE, hl]
 ·by_cases hn : d.n / 4 < 3
  ·refine (open_small p S B pv d w h hl (by have := h.n1; omega) hn).mono ?_
   rintro e w' ⟨rfl, ho⟩
   refine ⟨ho, ?_⟩
   simp [opS, opE, hl, hn]
  ·refine (open_any p S B pv d w h hl hb (by omega) dk hdk).mono ?_
   rintro e w' H
   have e1 : opS d = openR d := by unfold opS; rw [if_neg]; rintro (g | g); exact hl g; exact hn g
   have e2 : opE d = 6 := if_neg hl
   have hO : OpenIs w dk p (openR d) e w' := H.out
   show OpAll w dk p d e w'
   unfold OpAll
   rw [e1, e2]
   cases hx : openR d with
   | none => rw [hx] at hO; exact hO
   | some x => rw [hx] at hO; exact hO
theorem ropen_all {w : World} {B q K : Nat} {rv : Value} {rs : List RW} {d : DS} (h : RefAt w B q K rv d rs) (hg : Good d) (hb : ByteD d) (hp : d.pend.length ≤ 10000000000) : Calls Tryz.prog 46 #[.pointer (some ⟨q, 0, none⟩)] w fun e w' => Hid (ROpAll w q d e w') := by
 by_cases hl : d.life = 0
 ·refine (ropen_dead h hl).mono ?_
  rintro e w' ⟨rfl, rfl⟩
  refine ⟨Only.refl _ _, ?_⟩
  simp [opS, opE, hl]
 ·by_cases hn : d.n / 4 < 3
  ·refine (ropen_small h hg hl (by omega) (by have := h.n1; omega) hn).mono ?_
   rintro e w' ⟨rfl, ho⟩
   refine ⟨ho, ?_⟩
   simp [opS, opE, hl, hn]
  ·refine (ropen_any h hg hb hl hp (by omega)).mono ?_
   rintro e w' H
   have e1 : opS d = openR d := by unfold opS; rw [if_neg]; rintro (g | g); exact hl g; exact hn g
   have e2 : opE d = 6 := if_neg hl
   have hO : ROpIs w q (openR d) e w' := H.out
   show ROpAll w q d e w'
   unfold ROpAll
   rw [e1, e2]
   cases hx : openR d with
   | none => rw [hx] at hO; exact hO
   | some x => rw [hx] at hO; exact hO
set_option maxRecDepth 100000 in
set_option maxHeartbeats 4000000 in
theorem disk_open {w0 w : World} {B P p S q K N m : Nat} (h : PlOk w B P p S q K N m) (h0 : Only (fun _ => False) w0 w) (hB : B = w0.heap.size) (hm : m ≤ 8589934592) (i n cut : Int) (vb vk : Value) :
  Calls Tryz.prog 15 #[.pointer (some ⟨P, 0, none⟩), .agg #[.int .i64 5, .int .i64 i, .int .i64 n, .int .i64 cut, vb, vk]] w fun e w' => e = .returned (.bool true) ∧ Hid (PlOk w' B P p S q K N (m + 4000) ∧ Only (fun k => B ≤ k) w w') := by
 obtain ⟨pv, d, rv, rs, sv, rp, hc, hk, hf⟩ := h
 obtain ⟨wx, hwx⟩ : ∃ z, z = w.alloc (.cells #[.int .i64 5, .int .i64 i, .int .i64 n, .int .i64 cut, vb, vk] 40) := ⟨_, rfl⟩
 obtain ⟨Bx, hBx⟩ : ∃ z, z = w.heap.size := ⟨_, rfl⟩
 have oX : Only (fun _ => False) w wx := by rw [hwx]; exact (Only.refl _ w).alloc _
 have bX : wx.heap[Bx]? = some (.cells #[.int .i64 5, .int .i64 i, .int .i64 n, .int .i64 cut, vb, vk] 40 (0, 0)) := by rw [hwx, hBx]; exact heap_alloc_new w _
 have x0 : wx.cell? ⟨Bx, 0, none⟩ = some (.int .i64 5) := by rw [cell_of_row _ _ _ _ _ _ bX]; rfl
 have x1 : wx.cell? ⟨Bx, 1, none⟩ = some (.int .i64 i) := by rw [cell_of_row _ _ _ _ _ _ bX]; rfl
 have x2 : wx.cell? ⟨Bx, 2, none⟩ = some (.int .i64 n) := by rw [cell_of_row _ _ _ _ _ _ bX]; rfl
 have x3 : wx.cell? ⟨Bx, 3, none⟩ = some (.int .i64 cut) := by rw [cell_of_row _ _ _ _ _ _ bX]; rfl
 have x4 : wx.cell? ⟨Bx, 4, none⟩ = some (vb) := by rw [cell_of_row _ _ _ _ _ _ bX]; rfl
 have x5 : wx.cell? ⟨Bx, 5, none⟩ = some (vk) := by rw [cell_of_row _ _ _ _ _ _ bX]; rfl
 have hcx : PlC wx B P p S q K pv d rv rs d sv rp := hc.still oX
 have hkx : StK wx B P p S q K pv rv rs N sv rp := hk.disks (oX.mono (fun _ _ g => g.elim)) (fun b g => .inl g) (fun b g => .inl g)
 have hX : Bx < wx.heap.size ∧ ¬ diskB p S pv Bx ∧ ¬ refB q K rv rs Bx := ⟨by rw [hwx, hBx]; simp, fun g => by have := (hc.dk.lt _ g).2; omega, fun g => by have := (hc.rf.lt _ g).2; omega⟩
 have z0 : wx.cell? ⟨P, 0, none⟩ = some (.pointer (some ⟨p, 0, none⟩)) := hcx.pc 0 _ rfl
 have z1 : wx.cell? ⟨P, 1, none⟩ = some (.pointer (some ⟨q, 0, none⟩)) := hcx.pc 1 _ rfl
 have z2 : wx.cell? ⟨P, 2, none⟩ = some sv := hcx.pc 2 _ rfl
 have z3 : wx.cell? ⟨P, 3, none⟩ = some rp := hcx.pc 3 _ rfl
 have O0 : Hid (Only (fun _ => False) w0 wx) := h0.trans oX (fun _ _ g => g)
 have OX : Hid (Only (fun _ => False) w wx) := oX
 have HW : Hid (wx = w.alloc (.cells #[.int .i64 5, .int .i64 i, .int .i64 n, .int .i64 cut, vb, vk] 40)) := hwx
 have HX : Hid (Bx = w.heap.size) := hBx
 have oD : Only (fun _ => False) wx wx.drew := (Only.refl _ wx).drew
 have hkd : StK wx.drew B P p S q K pv rv rs N sv rp := hkx.disks (oD.mono (fun _ _ g => g.elim)) (fun b g => .inl g) (fun b g => .inl g)
 have hcd : PlC wx.drew B P p S q K pv d rv rs d sv rp := hcx.still oD
 have hpd := hf.pd
 have zw0 : w.cell? ⟨P, 0, none⟩ = some (.pointer (some ⟨p, 0, none⟩)) := hc.pc 0 _ rfl
 clear hwx hBx bX hc hk
 have hBw : B ≤ wx.heap.size := by have := hcx.pB; have := hcx.lt; omega
 have HF : Hid (Calls Tryz.prog 45 #[.pointer (some ⟨p, 0, none⟩)] wx fun e w' => Hid (OpAll wx (dkE (fun k => k = P ∨ refB q K rv rs k) p S pv) p d e w')) := open_all hcx.dk hf.by_ _ (fun k g => by
  rcases g with g | g | g
  ·exact (hcx.dk.lt k g).2
  ·have := hcx.lt; omega
  ·exact (hcx.rf.lt k g).2)
 have HF2 : Hid (∀ w1, RefAt w1 B q K rv d rs → Calls Tryz.prog 46 #[.pointer (some ⟨q, 0, none⟩)] w1 fun e w' => Hid (ROpAll w1 q d e w')) := fun w1 hr => ropen_all hr hf.gd hf.by_ (by omega)
 have HC : Hid (PlC wx B P p S q K pv d rv rs d sv rp ∧ B ≤ wx.heap.size) := ⟨hcx, hBw⟩
 have HFd : Hid (Fd d N (m + 4000) ∧ d.n = N) := ⟨hf.mono (by omega), hf.n_⟩
 have hE0 : opE d ≠ 0 := by unfold opE; split <;> omega
 have HSz : Hid (∀ x, opS d = some x → x.size = d.n / 4) := fun x hx => by
  unfold opS at hx
  split at hx
  ·cases hx
  ·exact open_size hx
 obtain ⟨ec, hec⟩ : ∃ ec, ec = opE d := ⟨_, rfl⟩
 obtain ⟨Y, hY⟩ : ∃ Y, Y = opS d := ⟨_, rfl⟩
 unfold OpAll at HF
 unfold ROpAll at HF2
 rw [← hY] at HF HF2 HSz
 rw [← hec] at HF HF2 hE0
 clear hBw hY hec
 clear hcx hkx hX O0 oD hkd hcd hpd oX h0 hf hB x1 x2 x3 x4 x5 z2 z3
 go_enter Tryz.func15, Tryz.ntmps15
 go_upto_region 12 with fail
 rw [← HW.out, ← HX.out]
 go_wp2_with fail
 refine (show Calls Tryz.prog 45 _ _ _ from HF.out).mono ?_
 rintro e w1 H1
 clear HF
 have ho1 := H1.out.1
 have c1 := HC.out.1.still ho1
 have hs1 := ho1.size
 have H2 : Hid (Calls Tryz.prog 46 _ _ _) := HF2.out w1 c1.rf
 have y1 : w1.cell? ⟨P, 1, none⟩ = some (.pointer (some ⟨q, 0, none⟩)) := c1.pc 1 _ rfl
 have HC1 : Hid (PlC w1 B P p S q K pv d rv rs d sv rp ∧ B ≤ w1.heap.size) := ⟨c1, by have := HC.out.2; omega⟩
 have G2 : Hid (Only (fun k => B ≤ k) w w1) := (OX.out.mono (fun _ _ g => g.elim)).trans (ho1.mono (fun _ _ g => g.elim)) (fun _ _ g => g)
 have HS1 : Hid (wx.heap.size ≤ w1.heap.size) := hs1
 clear c1 ho1 HF2 hs1 z0 z1 x0
 cases Y with
 | none =>
   have he := H1.out.2
   subst he
   clear H1
   go_wp2_with fail
   refine (show Calls Tryz.prog 46 _ _ _ from H2.out).mono ?_
   rintro e w2 H3
   have he := H3.out.2
   subst he
   clear H2 y1
   have c2 := HC1.out.1.still H3.out.1
   have HS := set_none P ec hE0 w2 _ _ (c2.pc 2 _ rfl) (c2.pc 3 _ rfl) (c2.fz 2 (by omega)) (c2.fz 3 (by omega))
   have hq := c2.gone HFd.out.1
   have HQ : Hid (PlOk (setP w2 P (.pointer none) (.pointer none)) B P p S q K N (m + 4000) ∧ Only (fun k => B ≤ k) w (setP w2 P (.pointer none) (.pointer none))) := ⟨hq.1, (G2.out.trans (H3.out.1.mono (fun k _ g => g.elim)) (fun _ _ g => g)).trans hq.2 (fun _ _ g => g)⟩
   clear c2 hq H3
   go_wp2_with fail
   refine HS.mono ?_
   rintro e w3 ⟨rfl, rfl⟩
   clear HS
   go_wp2
   go_ret
   exact ⟨rfl, HQ⟩
 | some x =>
   obtain ⟨s, mc, mn, tv, rfl, gs, l1, l2, l3⟩ := H1.out.2
   have HL : Hid (B ≤ s ∧ B ≤ mc ∧ B ≤ mn) := by have := HC.out.2; exact ⟨by omega, by omega, by omega⟩
   have HSt : Hid _ := gs
   clear H1 gs l1 l2 l3
   go_wp2_with fail
   refine (show Calls Tryz.prog 46 _ _ _ from H2.out).mono ?_
   rintro e w2 H3
   obtain ⟨r, tr, kr, nv, lk, ln, rfl, hr1, hr⟩ := H3.out.2
   clear H2 y1
   have c2 := HC1.out.1.still H3.out.1
   have HS := set_some P s r w2 _ _ (c2.pc 2 _ rfl) (c2.pc 3 _ rfl) (c2.fz 2 (by omega)) (c2.fz 3 (by omega))
   have hq := c2.new (duo_open HC1.out.1 HSt.out H3.out.1 hr hr1 HC1.out.2 HL.out.1 HL.out.2.1 HL.out.2.2) (by rw [← HFd.out.2]; exact HSz.out _ rfl) HFd.out.1
   have HQ : Hid (PlOk (setP w2 P (.pointer (some ⟨s, 0, none⟩)) (.pointer (some ⟨r, 0, none⟩))) B P p S q K N (m + 4000) ∧ Only (fun k => B ≤ k) w (setP w2 P (.pointer (some ⟨s, 0, none⟩)) (.pointer (some ⟨r, 0, none⟩)))) := ⟨hq.1, (G2.out.trans (H3.out.1.mono (fun k _ g => g.elim)) (fun _ _ g => g)).trans hq.2 (fun _ _ g => g)⟩
   clear c2 hq H3 hr hr1
   go_wp2_with fail
   refine HS.mono ?_
   rintro e w3 ⟨rfl, rfl⟩
   clear HS
   go_wp2
   go_ret
   exact ⟨rfl, HQ⟩
end Go.Proofs.YtlcglapcmdpkfaaGreat
