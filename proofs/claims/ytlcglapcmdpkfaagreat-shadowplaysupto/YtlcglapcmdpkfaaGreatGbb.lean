/-     -/
import Derived.Test.YtlcglapcmdpkfaaGreatGba
import Derived.Deep.CutRange
import Derived.BigQuiet
import Derived.OpenShut
import Derived.Deep.RegionHeld3
namespace Go.Proofs.YtlcglapcmdpkfaaGreat
open Go.RowKit Go.Maps
set_option linter.unusedSimpArgs false
set_option linter.unusedVariables false
set_option maxRecDepth 100000
set_option maxHeartbeats 16000000
theorem RsAt.empty {w : World} {rk rk' : Nat → Prop} {B r q : Nat} {x : SS} (h : RsAt w rk B r q (.slice none 0 0) (.slice none 0 0) (.slice none 0 0) x [] []) (hr : ¬ rk' r) : RsAt w rk' B r q (.slice none 0 0) (.slice none 0 0) (.slice none 0 0) x [] [] :=
 { cells := h.cells, there := h.there, rB := h.rB, k1 := hr, k2 := fun b g => by simp [Value.ownBlock] at g, tabs := h.tabs, tabsB := fun b g => by simp [Value.ownBlock] at g, keptB := fun b g => by simp [Value.ownBlock] at g
   kept := PgsAt.nil _ _ _, now := PgsAt.nil _ _ _, comE := h.comE, nowE := h.nowE, comR := h.comR, nowR := h.nowR, wf := h.wf }
section
variable {w w1 w2 : World} {B P p S q K N m s mc mn r : Nat} {pv pv' rv rv' sv rp tv tr kr nv : Value} {rs rs' : List RW} {d e : DS} {x : SS} {lk ln : List RPg}
theorem PlC.gone (h : PlC w B P p S q K pv d rv rs d sv rp) (hf : Fd d N m) : PlOk (setP w P (.pointer none) (.pointer none)) B P p S q K N m ∧ Only (fun k => B ≤ k) w (setP w P (.pointer none) (.pointer none)) :=
 ⟨⟨pv, d, rv, rs, _, _, h.set, .inl ⟨rfl, rfl⟩, hf⟩, (setP_only w P _ _).mono (fun k _ g => by have := h.pB; omega)⟩
theorem PlC.new (h : PlC w B P p S q K pv d rv rs d sv rp) (hd : Duo w B P p S q K pv s mc mn tv x rv rs r tr kr nv x lk ln) (hx : x.size = N / 4) (hf : Fd d N m) : PlOk (setP w P (.pointer (some ⟨s, 0, none⟩)) (.pointer (some ⟨r, 0, none⟩))) B P p S q K N m ∧ Only (fun k => B ≤ k) w (setP w P (.pointer (some ⟨s, 0, none⟩)) (.pointer (some ⟨r, 0, none⟩))) :=
 ⟨⟨pv, d, rv, rs, _, _, h.set, .inr (.inr ⟨s, r, mc, mn, tv, tr, kr, nv, x, lk, ln, rfl, rfl, hx, hd.disks ((setP_only w P _ _).mono (fun _ _ g => .inl g)) (fun b g => .inl g) (fun b g => .inl g)⟩), hf⟩, (setP_only w P _ _).mono (fun k _ g => by have := h.pB; omega)⟩
theorem duo_format (hc : PlC w1 B P p S q K pv' e rv rs d sv rp) (hs : StAt w1 (dkE (fun k => k = P ∨ refB q K rv rs k) p S pv') s p mc mn (.slice none 0 0) x) (hm : MidR w1 B q K rv rs e w2 rv' rs') (hr : RsAt w2 (refB q K rv' rs') B r q (.slice none 0 0) (.slice none 0 0) (.slice none 0 0) x [] []) (hr1 : w1.heap.size ≤ r) (sB : B ≤ s) (cB : B ≤ mc) (nB : B ≤ mn) :
  Duo w2 B P p S q K pv' s mc mn (.slice none 0 0) x rv' rs' r (.slice none 0 0) (.slice none 0 0) (.slice none 0 0) x [] [] :=
 { st := hs.frame hm.ho (fun k hk g => .inr (.inr g)) (fun k hk g => by
    rcases g with g | g | g | g | g
    ·exact .inl g
    ·exact .inr (.inl g)
    ·rcases hm.sub k g with g | g
     ·exact .inr (.inr g)
     ·omega
    ·omega
    ·simp [Value.ownBlock] at g)
   rt := hr.empty (by
    rintro (g | ⟨g, _⟩)
    ·exact hr.k1 g
    ·rcases g with g | g | g | g | g
     ·have := hc.lt; omega
     ·have := (hc.dk.lt r g).2; omega
     ·have := hs.lt; omega
     ·have := hs.com.lt; omega
     ·have := hs.now.lt; omega)
   sB := sB, cB := cB, nB := nB }
theorem duo_open (hc : PlC w1 B P p S q K pv d rv rs d sv rp) (hs : StAt w1 (dkE (fun k => k = P ∨ refB q K rv rs k) p S pv) s p mc mn tv x) (ho : Only (fun _ => False) w1 w2) (hr : ∀ (rk : Nat → Prop) (B : Nat), (∀ k, rk k → k < w1.heap.size) → B ≤ w1.heap.size → RsAt w2 rk B r q tr kr nv x lk ln) (hr1 : w1.heap.size ≤ r) (hB : B ≤ w1.heap.size) (sB : B ≤ s) (cB : B ≤ mc) (nB : B ≤ mn) :
  Duo w2 B P p S q K pv s mc mn tv x rv rs r tr kr nv x lk ln := by
 have hnv : ∀ k, nv.ownBlock = some k → ¬ k < w1.heap.size := fun k g => ((hr (fun k => k < w1.heap.size) B (fun _ g => g) hB).k2 k g).2
 have hE : ∀ k, eR P p S pv s mc mn k → k < w1.heap.size := by
  rintro k (g | g | g | g | g)
  ·have := hc.lt; omega
  ·exact (hc.dk.lt k g).2
  ·have := hs.lt; omega
  ·have := hs.com.lt; omega
  ·have := hs.now.lt; omega
 exact
  { st := hs.frame ho (fun k hk g => g.elim) (fun k hk g => by
     rcases g with g | g | g | g | g
     ·exact .inl g
     ·exact .inr (.inl g)
     ·exact .inr (.inr g)
     ·omega
     ·exact absurd hk (hnv k g))
    rt := hr _ B (fun k g => by
     rcases g with g | g
     ·exact (hc.rf.lt k g).2
     ·exact hE k g.1) hB
    sB := sB, cB := cB, nB := nB }
end
theorem disk_format {w0 w : World} {B P p S q K N m : Nat} (h : PlOk w B P p S q K N m) (h0 : Only (fun _ => False) w0 w) (hB : B = w0.heap.size) (hm : m ≤ 8589934592) (i n cut : Int) (vb vk : Value) :
  Calls Tryz.prog 15 #[.pointer (some ⟨P, 0, none⟩), .agg #[.int .i64 9, .int .i64 i, .int .i64 n, .int .i64 cut, vb, vk]] w fun e w' => e = .returned (.bool true) ∧ Hid (PlOk w' B P p S q K N (m + 4000) ∧ Only (fun k => B ≤ k) w w') := by
 obtain ⟨pv, d, rv, rs, sv, rp, hc, hk, hf⟩ := h
 obtain ⟨wx, hwx⟩ : ∃ z, z = w.alloc (.cells #[.int .i64 9, .int .i64 i, .int .i64 n, .int .i64 cut, vb, vk] 40) := ⟨_, rfl⟩
 obtain ⟨Bx, hBx⟩ : ∃ z, z = w.heap.size := ⟨_, rfl⟩
 have oX : Only (fun _ => False) w wx := by rw [hwx]; exact (Only.refl _ w).alloc _
 have bX : wx.heap[Bx]? = some (.cells #[.int .i64 9, .int .i64 i, .int .i64 n, .int .i64 cut, vb, vk] 40 (0, 0)) := by rw [hwx, hBx]; exact heap_alloc_new w _
 have x0 : wx.cell? ⟨Bx, 0, none⟩ = some (.int .i64 9) := by rw [cell_of_row _ _ _ _ _ _ bX]; rfl
 have x1 : wx.cell? ⟨Bx, 1, none⟩ = some (.int .i64 i) := by rw [cell_of_row _ _ _ _ _ _ bX]; rfl
 have x2 : wx.cell? ⟨Bx, 2, none⟩ = some (.int .i64 n) := by rw [cell_of_row _ _ _ _ _ _ bX]; rfl
 have x3 : wx.cell? ⟨Bx, 3, none⟩ = some (.int .i64 cut) := by rw [cell_of_row _ _ _ _ _ _ bX]; rfl
 have x4 : wx.cell? ⟨Bx, 4, none⟩ = some (vb) := by rw [cell_of_row _ _ _ _ _ _ bX]; rfl
 have x5 : wx.cell? ⟨Bx, 5, none⟩ = some (vk) := by rw [cell_of_row _ _ _ _ _ _ bX]; rfl
 have hcx : PlC wx B P p S q K pv d rv rs d sv rp := hc.still oX
 have hkx : StK wx B P p S q K pv rv rs N sv rp := hk.disks (oX.mono (fun _ _ g => g.elim)) (fun b g => .inl g) (fun b g => .inl g)
 have hX : Bx < wx.heap.size ∧ ¬ diskB p S pv Bx ∧ ¬ refB q K rv rs Bx := ⟨by rw [hwx, hBx]; simp, fun g => by have := (hc.dk.lt _ g).2; omega, fun g => by have := (hc.rf.lt _ g).2; omega⟩
 have z0 : wx.cell? ⟨P, 0, none⟩ = some (.pointer (some ⟨p, 0, none⟩)) := hcx.pc 0 _ rfl
 have z1 : wx.cell? ⟨P, 1, none⟩ = some (.pointer (some ⟨q, 0, none⟩)) := hcx.pc 1 _ rfl
 have z2 : wx.cell? ⟨P, 2, none⟩ = some sv := hcx.pc 2 _ rfl
 have z3 : wx.cell? ⟨P, 3, none⟩ = some rp := hcx.pc 3 _ rfl
 have O0 : Hid (Only (fun _ => False) w0 wx) := h0.trans oX (fun _ _ g => g)
 have OX : Hid (Only (fun _ => False) w wx) := oX
 have HW : Hid (wx = w.alloc (.cells #[.int .i64 9, .int .i64 i, .int .i64 n, .int .i64 cut, vb, vk] 40)) := hwx
 have HX : Hid (Bx = w.heap.size) := hBx
 have oD : Only (fun _ => False) wx wx.drew := (Only.refl _ wx).drew
 have hkd : StK wx.drew B P p S q K pv rv rs N sv rp := hkx.disks (oD.mono (fun _ _ g => g.elim)) (fun b g => .inl g) (fun b g => .inl g)
 have hcd : PlC wx.drew B P p S q K pv d rv rs d sv rp := hcx.still oD
 have hpd := hf.pd
 have zw0 : w.cell? ⟨P, 0, none⟩ = some (.pointer (some ⟨p, 0, none⟩)) := hc.pc 0 _ rfl
 clear hwx hBx bX hc hk
 have hBw : B ≤ wx.heap.size := by have := hcx.pB; have := hcx.lt; omega
 have HF : Hid (Calls Tryz.prog 11 #[.pointer (some ⟨p, 0, none⟩)] wx fun e w' => Hid (FmIs (fun k => k = P ∨ refB q K rv rs k) wx B p S pv d e w')) := format_all p S B pv d wx hcx.dk hBw (by omega) (fun k g => by
  rcases g with g | g
  ·have := hcx.lt; omega
  ·exact (hcx.rf.lt k g).2)
 have HF2 : Hid (∀ w1, RefAt w1 B q K rv d rs → B ≤ w1.heap.size → Calls Tryz.prog 43 #[.pointer (some ⟨q, 0, none⟩)] w1 fun e w' => Hid (RFmIs w1 B q K rv rs d e w')) := fun w1 hr hb => rformat_any hr hb hf.gd (by omega)
 have HC : Hid (PlC wx B P p S q K pv d rv rs d sv rp ∧ B ≤ wx.heap.size) := ⟨hcx, hBw⟩
 have HFd : Hid (Fd d.format.2 N (m + 4000) ∧ d.n = N) := ⟨hf.format.mono (by omega), hf.n_⟩
 clear hBw
 clear hcx hkx hX O0 oD hkd hcd hpd oX h0 hf hB x1 x2 x3 x4 x5 z2 z3
 go_enter Tryz.func15, Tryz.ntmps15
 go_upto_region 9 with fail
 rw [← HW.out, ← HX.out]
 go_wp2_with fail
 refine (show Calls Tryz.prog 11 _ _ _ from HF.out).mono ?_
 rintro e w1 H1
 clear HF
 rcases H1.out with ⟨h0, rfl, pv', g1, g2, g3⟩ | ⟨h0, s, mc, mn, pv', rfl, g1, gs, g2, g3, l1, l2, l3⟩
 ·have c1 : PlC w1 B P p S q K pv' d.format.2 rv rs d sv rp := HC.out.1.prog (X := fun _ => False) g1 (g2.mono (fun _ _ g => .inl g)) (fun _ g => g.elim) g3
  have hs1 := g2.size
  have H2 : Hid (Calls Tryz.prog 43 _ _ _) := HF2.out w1 c1.rf (by have := HC.out.2; omega)
  have y1 : w1.cell? ⟨P, 1, none⟩ = some (.pointer (some ⟨q, 0, none⟩)) := c1.pc 1 _ rfl
  have HC1 : Hid _ := c1
  have G2 : Hid (Only (fun k => B ≤ k) w w1) := (OX.out.mono (fun _ _ g => g.elim)).trans (g2.mono (fun k _ g => (HC.out.1.dk.lt k g).1)) (fun _ _ g => g)
  have H0 : Hid (d.format.1 ≠ 0) := h0
  obtain ⟨ec, hec⟩ : ∃ ec : Int, ec = (if d.n / 4 < 3 then 7 else 3) := ⟨_, rfl⟩
  have HEC : Hid (ec = (if d.n / 4 < 3 then 7 else 3)) := hec
  rw [← hec]
  have hec0 : ec ≠ 0 := by rw [hec]; split <;> omega
  clear c1 g1 g2 g3 h0 HF2 H1 hec hs1 z0 z1 x0
  go_wp2_with fail
  refine (show Calls Tryz.prog 43 _ _ _ from H2.out).mono ?_
  rintro e w2 H3
  clear H2 y1
  rcases H3.out with ⟨h0', rfl, rv', rs', hm⟩ | ⟨h0', _⟩
  ·rw [← HEC.out]
   have c2 : PlC w2 B P p S q K pv' d.format.2 rv' rs' d.format.2 sv rp := HC1.out.doc (X := fun _ => False) hm.ref (hm.ho.mono (fun _ _ g => .inl g)) (fun _ g => g.elim) hm.sub
   have HS := set_none P ec hec0 w2 _ _ (c2.pc 2 _ rfl) (c2.pc 3 _ rfl) (c2.fz 2 (by omega)) (c2.fz 3 (by omega))
   have hq := c2.gone HFd.out.1
   have HQ : Hid (PlOk (setP w2 P (.pointer none) (.pointer none)) B P p S q K N (m + 4000) ∧ Only (fun k => B ≤ k) w (setP w2 P (.pointer none) (.pointer none))) := ⟨hq.1, (G2.out.trans (hm.ho.mono (fun k _ g => (HC1.out.rf.lt k g).1)) (fun _ _ g => g)).trans hq.2 (fun _ _ g => g)⟩
   clear c2 hq hm H3 h0'
   go_wp2_with fail
   refine HS.mono ?_
   rintro e w3 ⟨rfl, rfl⟩
   clear HS
   go_wp2
   go_ret
   exact ⟨rfl, HQ⟩
  ·exact absurd h0' H0.out
 ·have c1 : PlC w1 B P p S q K pv' d.format.2 rv rs d sv rp := HC.out.1.prog (X := fun _ => False) g1 (g2.mono (fun _ _ g => .inl g)) (fun _ g => g.elim) g3
  have hs1 := g2.size
  have H2 : Hid (Calls Tryz.prog 43 _ _ _) := HF2.out w1 c1.rf (by have := HC.out.2; omega)
  have y1 : w1.cell? ⟨P, 1, none⟩ = some (.pointer (some ⟨q, 0, none⟩)) := c1.pc 1 _ rfl
  have HC1 : Hid _ := c1
  have HSt : Hid _ := gs
  have HL : Hid (B ≤ s ∧ B ≤ mc ∧ B ≤ mn) := by have := HC.out.2; exact ⟨by omega, by omega, by omega⟩
  have G2 : Hid (Only (fun k => B ≤ k) w w1) := (OX.out.mono (fun _ _ g => g.elim)).trans (g2.mono (fun k _ g => (HC.out.1.dk.lt k g).1)) (fun _ _ g => g)
  have H0 : Hid (d.format.1 = 0) := h0
  clear c1 g1 g2 g3 h0 HF2 H1 hs1 gs l1 l2 l3 z0 z1 x0
  go_wp2_with fail
  refine (show Calls Tryz.prog 43 _ _ _ from H2.out).mono ?_
  rintro e w2 H3
  clear H2 y1
  rcases H3.out with ⟨h0', _⟩ | ⟨h0', r, rfl, hr1, rv', rs', hm, hr⟩
  ·exact absurd H0.out h0'
  ·have c2 : PlC w2 B P p S q K pv' d.format.2 rv' rs' d.format.2 sv rp := HC1.out.doc (X := fun _ => False) hm.ref (hm.ho.mono (fun _ _ g => .inl g)) (fun _ g => g.elim) hm.sub
   have HS := set_some P s r w2 _ _ (c2.pc 2 _ rfl) (c2.pc 3 _ rfl) (c2.fz 2 (by omega)) (c2.fz 3 (by omega))
   have hq := c2.new (duo_format HC1.out HSt.out hm hr hr1 HL.out.1 HL.out.2.1 HL.out.2.2) (by rw [← HFd.out.2]; rfl) HFd.out.1
   have HQ : Hid (PlOk (setP w2 P (.pointer (some ⟨s, 0, none⟩)) (.pointer (some ⟨r, 0, none⟩))) B P p S q K N (m + 4000) ∧ Only (fun k => B ≤ k) w (setP w2 P (.pointer (some ⟨s, 0, none⟩)) (.pointer (some ⟨r, 0, none⟩)))) := ⟨hq.1, (G2.out.trans (hm.ho.mono (fun k _ g => (HC1.out.rf.lt k g).1)) (fun _ _ g => g)).trans hq.2 (fun _ _ g => g)⟩
   clear c2 hq hm H3 h0' hr hr1
   go_wp2_with fail
   refine HS.mono ?_
   rintro e w3 ⟨rfl, rfl⟩
   clear HS
   go_wp2
   go_ret
   exact ⟨rfl, HQ⟩
def opE (d : DS) : Int := if d.life = 0 then 3 else 6
def opS (d : DS) : Option SS := if d.life = 0 ∨ d.n / 4 < 3 then none else openR d
def OpAll (w : World) (dk : Nat → Prop) (p : Nat) (d : DS) (e : Ending) (w' : World) : Prop :=
 Only (fun _ => False) w w' ∧ match opS d with
 | none => e = .returned (.tuple #[.pointer none, .int .i64 (opE d)])
 | some x => ∃ s mc mn tv, e = .returned (.tuple #[.pointer (some ⟨s, 0, none⟩), .int .i64 0]) ∧ StAt w' dk s p mc mn tv x ∧ w.heap.size ≤ s ∧ w.heap.size ≤ mc ∧ w.heap.size ≤ mn
def ROpAll (w : World) (q : Nat) (d : DS) (e : Ending) (w' : World) : Prop :=
 Only (fun _ => False) w w' ∧ match opS d with
 | none => e = .returned (.tuple #[.pointer none, .int .i64 (opE d)])
 | some x => ∃ R tv kv nv lk ln, e = .returned (.tuple #[.pointer (some ⟨R, 0, none⟩), .int .i64 0]) ∧ w.heap.size ≤ R ∧ ∀ (rk : Nat → Prop) (B : Nat), (∀ k, rk k → k < w.heap.size) → B ≤ w.heap.size → RsAt w' rk B R q tv kv nv x lk ln
theorem open_all {w : World} {B p S : Nat} {pv : Value} {d : DS} (h : DiskAt w B p S pv d) (hb : ByteD d) (dk : Nat → Prop) (hdk : ∀ k, dk k → k < w.heap.size) : Calls Tryz.prog 45 #[.pointer (some ⟨p, 0, none⟩)] w fun e w' => Hid (OpAll w dk p d e w') := by
 by_cases hl : d.life = 0
 ·refine (open_dead p S B pv d w h hl).mono ?_
  rintro e w' ⟨rfl, rfl⟩
  refine ⟨Only.refl _ _, ?_⟩
  simp [opS, opE, hl]
 ·by_cases hn : d.n / 4 < 3
  ·refine (open_small p S B pv d w h hl (by have := h.n1; omega) hn).mono ?_
   rintro e w' ⟨rfl, ho⟩
   refine ⟨ho, ?_⟩
   simp [opS, opE, hl, hn]
  ·refine (open_any p S B pv d w h hl hb (by omega) dk hdk).mono ?_
   rintro e w' H
   have e1 : opS d = openR d := by unfold opS; rw [if_neg]; rintro (g | g); exact hl g; exact hn g
   have e2 : opE d = 6 := if_neg hl
   have hO : OpenIs w dk p (openR d) e w' := H.out
   show OpAll w dk p d e w'
   unfold OpAll
   rw [e1, e2]
   cases hx : openR d with
   | none => rw [hx] at hO; exact hO
   | some x => rw [hx] at hO; exact hO
theorem ropen_all {w : World} {B q K : Nat} {rv : Value} {rs : List RW} {d : DS} (h : RefAt w B q K rv d rs) (hg : Good d) (hb : ByteD d) (hp : d.pend.length ≤ 10000000000) : Calls Tryz.prog 46 #[.pointer (some ⟨q, 0, none⟩)] w fun e w' => Hid (ROpAll w q d e w') := by
 by_cases hl : d.life = 0
 ·refine (ropen_dead h hl).mono ?_
  rintro e w' ⟨rfl, rfl⟩
  refine ⟨Only.refl _ _, ?_⟩
  simp [opS, opE, hl]
 ·by_cases hn : d.n / 4 < 3
  ·refine (ropen_small h hg hl (by omega) (by have := h.n1; omega) hn).mono ?_
   rintro e w' ⟨rfl, ho⟩
   refine ⟨ho, ?_⟩
   simp [opS, opE, hl, hn]
  ·refine (ropen_any h hg hb hl hp (by omega)).mono ?_
   rintro e w' H
   have e1 : opS d = openR d := by unfold opS; rw [if_neg]; rintro (g | g); exact hl g; exact hn g
   have e2 : opE d = 6 := if_neg hl
   have hO : ROpIs w q (openR d) e w' := H.out
   show ROpAll w q d e w'
   unfold ROpAll
   rw [e1, e2]
   cases hx : openR d with
   | none => rw [hx] at hO; exact hO
   | some x => rw [hx] at hO; exact hO
theorem disk_open {w0 w : World} {B P p S q K N m : Nat} (h : PlOk w B P p S q K N m) (h0 : Only (fun _ => False) w0 w) (hB : B = w0.heap.size) (hm : m ≤ 8589934592) (i n cut : Int) (vb vk : Value) :
  Calls Tryz.prog 15 #[.pointer (some ⟨P, 0, none⟩), .agg #[.int .i64 5, .int .i64 i, .int .i64 n, .int .i64 cut, vb, vk]] w fun e w' => e = .returned (.bool true) ∧ Hid (PlOk w' B P p S q K N (m + 4000) ∧ Only (fun k => B ≤ k) w w') := by
 obtain ⟨pv, d, rv, rs, sv, rp, hc, hk, hf⟩ := h
 obtain ⟨wx, hwx⟩ : ∃ z, z = w.alloc (.cells #[.int .i64 5, .int .i64 i, .int .i64 n, .int .i64 cut, vb, vk] 40) := ⟨_, rfl⟩
 obtain ⟨Bx, hBx⟩ : ∃ z, z = w.heap.size := ⟨_, rfl⟩
 have oX : Only (fun _ => False) w wx := by rw [hwx]; exact (Only.refl _ w).alloc _
 have bX : wx.heap[Bx]? = some (.cells #[.int .i64 5, .int .i64 i, .int .i64 n, .int .i64 cut, vb, vk] 40 (0, 0)) := by rw [hwx, hBx]; exact heap_alloc_new w _
 have x0 : wx.cell? ⟨Bx, 0, none⟩ = some (.int .i64 5) := by rw [cell_of_row _ _ _ _ _ _ bX]; rfl
 have x1 : wx.cell? ⟨Bx, 1, none⟩ = some (.int .i64 i) := by rw [cell_of_row _ _ _ _ _ _ bX]; rfl
 have x2 : wx.cell? ⟨Bx, 2, none⟩ = some (.int .i64 n) := by rw [cell_of_row _ _ _ _ _ _ bX]; rfl
 have x3 : wx.cell? ⟨Bx, 3, none⟩ = some (.int .i64 cut) := by rw [cell_of_row _ _ _ _ _ _ bX]; rfl
 have x4 : wx.cell? ⟨Bx, 4, none⟩ = some (vb) := by rw [cell_of_row _ _ _ _ _ _ bX]; rfl
 have x5 : wx.cell? ⟨Bx, 5, none⟩ = some (vk) := by rw [cell_of_row _ _ _ _ _ _ bX]; rfl
 have hcx : PlC wx B P p S q K pv d rv rs d sv rp := hc.still oX
 have hkx : StK wx B P p S q K pv rv rs N sv rp := hk.disks (oX.mono (fun _ _ g => g.elim)) (fun b g => .inl g) (fun b g => .inl g)
 have hX : Bx < wx.heap.size ∧ ¬ diskB p S pv Bx ∧ ¬ refB q K rv rs Bx := ⟨by rw [hwx, hBx]; simp, fun g => by have := (hc.dk.lt _ g).2; omega, fun g => by have := (hc.rf.lt _ g).2; omega⟩
 have z0 : wx.cell? ⟨P, 0, none⟩ = some (.pointer (some ⟨p, 0, none⟩)) := hcx.pc 0 _ rfl
 have z1 : wx.cell? ⟨P, 1, none⟩ = some (.pointer (some ⟨q, 0, none⟩)) := hcx.pc 1 _ rfl
 have z2 : wx.cell? ⟨P, 2, none⟩ = some sv := hcx.pc 2 _ rfl
 have z3 : wx.cell? ⟨P, 3, none⟩ = some rp := hcx.pc 3 _ rfl
 have O0 : Hid (Only (fun _ => False) w0 wx) := h0.trans oX (fun _ _ g => g)
 have OX : Hid (Only (fun _ => False) w wx) := oX
 have HW : Hid (wx = w.alloc (.cells #[.int .i64 5, .int .i64 i, .int .i64 n, .int .i64 cut, vb, vk] 40)) := hwx
 have HX : Hid (Bx = w.heap.size) := hBx
 have oD : Only (fun _ => False) wx wx.drew := (Only.refl _ wx).drew
 have hkd : StK wx.drew B P p S q K pv rv rs N sv rp := hkx.disks (oD.mono (fun _ _ g => g.elim)) (fun b g => .inl g) (fun b g => .inl g)
 have hcd : PlC wx.drew B P p S q K pv d rv rs d sv rp := hcx.still oD
 have hpd := hf.pd
 have zw0 : w.cell? ⟨P, 0, none⟩ = some (.pointer (some ⟨p, 0, none⟩)) := hc.pc 0 _ rfl
 clear hwx hBx bX hc hk
 have hBw : B ≤ wx.heap.size := by have := hcx.pB; have := hcx.lt; omega
 have HF : Hid (Calls Tryz.prog 45 #[.pointer (some ⟨p, 0, none⟩)] wx fun e w' => Hid (OpAll wx (dkE (fun k => k = P ∨ refB q K rv rs k) p S pv) p d e w')) := open_all hcx.dk hf.by_ _ (fun k g => by
  rcases g with g | g | g
  ·exact (hcx.dk.lt k g).2
  ·have := hcx.lt; omega
  ·exact (hcx.rf.lt k g).2)
 have HF2 : Hid (∀ w1, RefAt w1 B q K rv d rs → Calls Tryz.prog 46 #[.pointer (some ⟨q, 0, none⟩)] w1 fun e w' => Hid (ROpAll w1 q d e w')) := fun w1 hr => ropen_all hr hf.gd hf.by_ (by omega)
 have HC : Hid (PlC wx B P p S q K pv d rv rs d sv rp ∧ B ≤ wx.heap.size) := ⟨hcx, hBw⟩
 have HFd : Hid (Fd d N (m + 4000) ∧ d.n = N) := ⟨hf.mono (by omega), hf.n_⟩
 have hE0 : opE d ≠ 0 := by unfold opE; split <;> omega
 have HSz : Hid (∀ x, opS d = some x → x.size = d.n / 4) := fun x hx => by
  unfold opS at hx
  split at hx
  ·cases hx
  ·exact open_size hx
 obtain ⟨ec, hec⟩ : ∃ ec, ec = opE d := ⟨_, rfl⟩
 obtain ⟨Y, hY⟩ : ∃ Y, Y = opS d := ⟨_, rfl⟩
 unfold OpAll at HF
 unfold ROpAll at HF2
 rw [← hY] at HF HF2 HSz
 rw [← hec] at HF HF2 hE0
 clear hBw hY hec
 clear hcx hkx hX O0 oD hkd hcd hpd oX h0 hf hB x1 x2 x3 x4 x5 z2 z3
 go_enter Tryz.func15, Tryz.ntmps15
 go_upto_region 12 with fail
 rw [← HW.out, ← HX.out]
 go_wp2_with fail
 refine (show Calls Tryz.prog 45 _ _ _ from HF.out).mono ?_
 rintro e w1 H1
 clear HF
 have ho1 := H1.out.1
 have c1 := HC.out.1.still ho1
 have hs1 := ho1.size
 have H2 : Hid (Calls Tryz.prog 46 _ _ _) := HF2.out w1 c1.rf
 have y1 : w1.cell? ⟨P, 1, none⟩ = some (.pointer (some ⟨q, 0, none⟩)) := c1.pc 1 _ rfl
 have HC1 : Hid (PlC w1 B P p S q K pv d rv rs d sv rp ∧ B ≤ w1.heap.size) := ⟨c1, by have := HC.out.2; omega⟩
 have G2 : Hid (Only (fun k => B ≤ k) w w1) := (OX.out.mono (fun _ _ g => g.elim)).trans (ho1.mono (fun _ _ g => g.elim)) (fun _ _ g => g)
 have HS1 : Hid (wx.heap.size ≤ w1.heap.size) := hs1
 clear c1 ho1 HF2 hs1 z0 z1 x0
 cases Y with
 | none =>
   have he := H1.out.2
   subst he
   clear H1
   go_wp2_with fail
   refine (show Calls Tryz.prog 46 _ _ _ from H2.out).mono ?_
   rintro e w2 H3
   have he := H3.out.2
   subst he
   clear H2 y1
   have c2 := HC1.out.1.still H3.out.1
   have HS := set_none P ec hE0 w2 _ _ (c2.pc 2 _ rfl) (c2.pc 3 _ rfl) (c2.fz 2 (by omega)) (c2.fz 3 (by omega))
   have hq := c2.gone HFd.out.1
   have HQ : Hid (PlOk (setP w2 P (.pointer none) (.pointer none)) B P p S q K N (m + 4000) ∧ Only (fun k => B ≤ k) w (setP w2 P (.pointer none) (.pointer none))) := ⟨hq.1, (G2.out.trans (H3.out.1.mono (fun k _ g => g.elim)) (fun _ _ g => g)).trans hq.2 (fun _ _ g => g)⟩
   clear c2 hq H3
   go_wp2_with fail
   refine HS.mono ?_
   rintro e w3 ⟨rfl, rfl⟩
   clear HS
   go_wp2
   go_ret
   exact ⟨rfl, HQ⟩
 | some x =>
   obtain ⟨s, mc, mn, tv, rfl, gs, l1, l2, l3⟩ := H1.out.2
   have HL : Hid (B ≤ s ∧ B ≤ mc ∧ B ≤ mn) := by have := HC.out.2; exact ⟨by omega, by omega, by omega⟩
   have HSt : Hid _ := gs
   clear H1 gs l1 l2 l3
   go_wp2_with fail
   refine (show Calls Tryz.prog 46 _ _ _ from H2.out).mono ?_
   rintro e w2 H3
   obtain ⟨r, tr, kr, nv, lk, ln, rfl, hr1, hr⟩ := H3.out.2
   clear H2 y1
   have c2 := HC1.out.1.still H3.out.1
   have HS := set_some P s r w2 _ _ (c2.pc 2 _ rfl) (c2.pc 3 _ rfl) (c2.fz 2 (by omega)) (c2.fz 3 (by omega))
   have hq := c2.new (duo_open HC1.out.1 HSt.out H3.out.1 hr hr1 HC1.out.2 HL.out.1 HL.out.2.1 HL.out.2.2) (by rw [← HFd.out.2]; exact HSz.out _ rfl) HFd.out.1
   have HQ : Hid (PlOk (setP w2 P (.pointer (some ⟨s, 0, none⟩)) (.pointer (some ⟨r, 0, none⟩))) B P p S q K N (m + 4000) ∧ Only (fun k => B ≤ k) w (setP w2 P (.pointer (some ⟨s, 0, none⟩)) (.pointer (some ⟨r, 0, none⟩)))) := ⟨hq.1, (G2.out.trans (H3.out.1.mono (fun k _ g => g.elim)) (fun _ _ g => g)).trans hq.2 (fun _ _ g => g)⟩
   clear c2 hq H3 hr hr1
   go_wp2_with fail
   refine HS.mono ?_
   rintro e w3 ⟨rfl, rfl⟩
   clear HS
   go_wp2
   go_ret
   exact ⟨rfl, HQ⟩
theorem PlOk.still {w w1 : World} {B P p S q K n m : Nat} (h : PlOk w B P p S q K n m) (ho : Only (fun _ => False) w w1) : PlOk w1 B P p S q K n m := by
 obtain ⟨pv, d, rv, rs, sv, rp, hc, hk, hf⟩ := h
 exact ⟨pv, d, rv, rs, sv, rp, hc.still ho, hk.disks (ho.mono (fun _ _ g => g.elim)) (fun b g => .inl g) (fun b g => .inl g), hf⟩
theorem PlOk.alike {w : World} {B P p S q K n m : Nat} (h : PlOk w B P p S q K n m) : Calls Tryz.prog 16 #[.pointer (some ⟨P, 0, none⟩)] w fun e w' => e = .returned (.bool true) ∧ Only (fun _ => False) w w' := by
 obtain ⟨pv, d, rv, rs, sv, rp, hc, hk, hf⟩ := h
 exact alike_any hc hk hf.n_.symm
def ThenA (w0 : World) (B P p S q K n m X : Nat) (w2 : World) : Prop := Calls Tryz.prog 16 #[.pointer (some ⟨P, 0, none⟩)] w2 fun e w3 => e = .returned (.bool true) ∧ Hid (KeepC P X w0 w3) ∧ Hid (PlOk w3 B P p S q K n m ∧ Only (fun k => B ≤ k) w0 w3)
theorem PlOk.thenA {w w2 : World} {B P p S q K n m X : Nat} (h : PlOk w2 B P p S q K n m) (hk : KeepC P X w w2) (ho : Only (fun k => B ≤ k) w w2) : ThenA w B P p S q K n m X w2 := by
 refine h.alike.mono ?_
 rintro e w3 ⟨rfl, o3⟩
 exact ⟨rfl, hk.trans (KeepC.of o3 (fun g => g) (fun g => g)), h.still o3, ho.trans (o3.mono (fun _ _ g => g.elim)) (fun _ _ g => g)⟩
def Two (w : World) (B P p S q K n m X f1 f2 : Nat) (a1 a2 : Array Value) : Prop := ∃ y : Int, Calls Tryz.prog f1 a1 w fun e w1 => e = .returned (.int .i64 y) ∧ Hid (KeepC P X w w1) ∧ Hid (Calls Tryz.prog f2 a2 w1 fun e w2 => e = .returned (.int .i64 y) ∧ Hid (KeepC P X w w2) ∧ Hid (ThenA w B P p S q K n m X w2))
section
variable {w w1 w2 : World} {B P p S q K X N m s mc mn mn1 r : Nat} {pv pv' rv rv' sv rp tv tv1 tr kr nv : Value} {rs rs' : List RW} {d e : DS} {x x1 y y1 : SS} {lk ln : List RPg}
theorem Duo.not (h : Duo w B P p S q K pv s mc mn tv x rv rs r tr kr nv y lk ln) : (∀ k, (k = s ∨ k = mn) → k ≠ P ∧ ¬ diskB p S pv k ∧ ¬ refB q K rv rs k) ∧ (∀ k, (nv.ownBlock = some k ∨ k = r) → k ≠ P ∧ ¬ diskB p S pv k ∧ ¬ refB q K rv rs k) := by
 constructor
 ·intro k hk
  have : ¬ dkE (eP P q K rv rs r nv) p S pv k := by
   rcases hk with rfl | rfl
   ·exact h.st.k1
   ·exact h.st.k3
  exact ⟨fun g => this (.inr (.inl g)), fun g => this (.inl g), fun g => this (.inr (.inr (.inl g)))⟩
 ·intro k hk
  have hlt : k < w.heap.size := by
   rcases hk with g | g
   ·exact (h.rt.now.lt k g).2
   ·have := h.rt.lt; omega
  have : ¬ refE (eR P p S pv s mc mn) w.heap.size q K rv rs k := by
   rcases hk with g | rfl
   ·exact (h.rt.k2 k g).2
   ·exact h.rt.k1
  exact ⟨fun g => this (.inr ⟨.inl g, hlt⟩), fun g => this (.inr ⟨.inr (.inl g), hlt⟩), fun g => this (.inl g)⟩
theorem Duo.prog1 (h : Duo w B P p S q K pv s mc mn tv x rv rs r tr kr nv y lk ln) (hc : PlC w B P p S q K pv d rv rs e sv rp) (h1 : StAt w1 (dkE (eP P q K rv rs r nv) p S pv) s p mc mn1 tv1 x1) (ho : Only (fun k => k = s ∨ k = mn) w w1) (hn : mn1 = mn ∨ w.heap.size ≤ mn1) :
  PlC w1 B P p S q K pv d rv rs e sv rp ∧ Duo w1 B P p S q K pv s mc mn1 tv1 x1 rv rs r tr kr nv y lk ln := by
 have hN := h.not.1
 refine ⟨hc.prog (X := fun k => k = s ∨ k = mn) (hc.dk.frame ho (fun b g g' => (hN b g').2.1 g)) (ho.mono (fun _ _ g => .inr g)) (fun k g => ⟨(hN k g).1, (hN k g).2.2⟩) (fun b g => .inl g), h.prog h1 (ho.mono (fun _ _ g => .inr g)) (fun b g => .inl g) (.inl rfl) hn ?_⟩
 have := hc.pB
 have := hc.lt
 omega
theorem Duo.doc1 (h : Duo w B P p S q K pv s mc mn tv x rv rs r tr kr nv y lk ln) (hc : PlC w B P p S q K pv d rv rs e sv rp) (h1 : RsIs w (refE (eR P p S pv s mc mn) w.heap.size q K rv rs) B r q nv y1 w1) :
  PlC w1 B P p S q K pv d rv rs e sv rp ∧ ∃ tr kr nv lk ln, Duo w1 B P p S q K pv s mc mn tv x rv rs r tr kr nv y1 lk ln := by
 obtain ⟨tv', kv', nv', lk', ln', g1, g2, g3⟩ := h1
 have hN := h.not.2
 refine ⟨hc.doc (X := fun k => nv.ownBlock = some k ∨ k = r) (hc.rf.frame g2 (fun b g g' => (hN b g').2.2 g)) (g2.mono (fun _ _ g => .inr g)) (fun k g => ⟨(hN k g).1, (hN k g).2.1⟩) (fun b g => .inl g), tv', kv', nv', lk', ln', h.doc (h.old hc).2.1 g1 (g2.mono (fun _ _ g => .inr g)) (fun b g => .inl g) g3⟩
def Off (X P p S q K : Nat) (pv rv : Value) (rs : List RW) (s mc mn r : Nat) (nv : Value) : Prop := ¬ (eP P q K rv rs r nv X) ∧ ¬ eR P p S pv s mc mn X
theorem Duo.two {f1 f2 : Nat} {a1 a2 : Array Value} {c : Int} (h : Duo w B P p S q K pv s mc mn tv x rv rs r tr kr nv x lk ln) (hc : PlC w B P p S q K pv d rv rs d (.pointer (some ⟨s, 0, none⟩)) (.pointer (some ⟨r, 0, none⟩))) (hx : x1.size = N / 4) (hf : Fd d N m) (hX : Off X P p S q K pv rv rs s mc mn r nv)
  (h1 : Calls Tryz.prog f1 a1 w fun e w1 => e = .returned (.int .i64 c) ∧ ∃ mn1 tv1, StAt w1 (dkE (eP P q K rv rs r nv) p S pv) s p mc mn1 tv1 x1 ∧ Only (fun k => k = s ∨ k = mn) w w1 ∧ (mn1 = mn ∨ w.heap.size ≤ mn1))
  (h2 : ∀ w1 mn1 tv1, Only (fun k => k = s ∨ k = mn) w w1 → Duo w1 B P p S q K pv s mc mn1 tv1 x1 rv rs r tr kr nv x lk ln → PlC w1 B P p S q K pv d rv rs d (.pointer (some ⟨s, 0, none⟩)) (.pointer (some ⟨r, 0, none⟩)) → Calls Tryz.prog f2 a2 w1 fun e w2 => e = .returned (.int .i64 c) ∧ RsIs w1 (refE (eR P p S pv s mc mn1) w1.heap.size q K rv rs) B r q nv x1 w2) :
  Two w B P p S q K N m X f1 f2 a1 a2 := by
 refine ⟨c, h1.mono ?_⟩
 rintro e w1 ⟨rfl, mn1, tv1, g1, g2, g3⟩
 obtain ⟨c1, d1⟩ := h.prog1 hc g1 g2 g3
 have hN := h.not
 have lo : ∀ k, (k = s ∨ k = mn) → B ≤ k := by
  rintro k (g | g)
  ·have := h.sB; omega
  ·have := h.nB; omega
 have k1 : KeepC P X w w1 := KeepC.of g2 (fun g => (hN.1 P g).1 rfl) (fun g => hX.2 (g.elim (fun g => .inr (.inr (.inl g))) (fun g => .inr (.inr (.inr (.inr g))))))
 refine ⟨rfl, k1, (h2 w1 mn1 tv1 g2 d1 c1).mono ?_⟩
 rintro e w2 ⟨rfl, hR⟩
 obtain ⟨c2, tr2, kr2, nv2, lk2, ln2, d2⟩ := d1.doc1 c1 hR
 obtain ⟨_, _, _, _, _, _, o2, _⟩ := hR
 have k2 : KeepC P X w1 w2 := KeepC.of o2 (fun g => (hN.2 P g).1 rfl) (fun g => hX.1 (g.elim (fun g => .inr (.inr (.inr g))) (fun g => .inr (.inr (.inl g)))))
 have hok : PlOk w2 B P p S q K N m := ⟨pv, d, rv, rs, _, _, c2, .inr (.inr ⟨s, r, mc, mn1, tv1, tr2, kr2, nv2, x1, lk2, ln2, rfl, rfl, hx, d2⟩), hf⟩
 refine ⟨rfl, k1.trans k2, hok.thenA (k1.trans k2) ((g2.mono (fun k _ g => lo k g)).trans (o2.mono (fun k hk g => ?_)) (fun _ _ g => g))⟩
 rcases g with g | g
 ·exact (h.rt.now.lt k g).1
 ·have := h.rt.rB; omega
theorem dead_two {f1 f2 : Nat} {a1 a2 : Array Value} {c : Int} (h : PlOk w B P p S q K N m) (h1 : Calls Tryz.prog f1 a1 w fun e w' => e = .returned (.int .i64 c) ∧ w' = w) (h2 : Calls Tryz.prog f2 a2 w fun e w' => e = .returned (.int .i64 c) ∧ w' = w) : Two w B P p S q K N m X f1 f2 a1 a2 := by
 have k0 : KeepC P X w w := KeepC.of (Only.refl (fun _ => False) w) (fun g => g) (fun g => g)
 refine ⟨c, h1.mono ?_⟩
 rintro e w1 ⟨rfl, rfl⟩
 refine ⟨rfl, k0, h2.mono ?_⟩
 rintro e w2 ⟨rfl, rfl⟩
 exact ⟨rfl, k0, h.thenA k0 (Only.refl _ _)⟩
theorem isAt_pg {l : Pgs} (h : Rise l) (i : Int) : (pgAt l i).isSome = isAt l i := by
 unfold pgAt
 rw [get_fi h]
 cases e : isAt l i with
 | false => simp
 | true =>
   simp only [if_true, Option.isSome_map]
   unfold isAt at e
   cases e2 : l[fi l i]? with
   | none => rw [e2] at e; cases e
   | some p => rfl
theorem Duo.drop (h : Duo w B P p S q K pv s mc mn tv x rv rs r tr kr nv x lk ln) (hc : PlC w B P p S q K pv d rv rs d (.pointer (some ⟨s, 0, none⟩)) (.pointer (some ⟨r, 0, none⟩))) (hx : x.size = N / 4) (hf : Fd d N m) (hX : Off X P p S q K pv rv rs s mc mn r nv) (i : Int) :
  Two w B P p S q K N m X 18 19 #[.pointer (some ⟨s, 0, none⟩), .int .i64 i] #[.pointer (some ⟨r, 0, none⟩), .int .i64 i] := by
 have hBl : ∀ w1 : World, PlC w1 B P p S q K pv d rv rs d (.pointer (some ⟨s, 0, none⟩)) (.pointer (some ⟨r, 0, none⟩)) → B ≤ w1.heap.size := fun w1 g => by have := g.pB; have := g.lt; omega
 by_cases hi : 0 ≤ i ∧ i < 728
 ·have hb : ¬ badE i ≠ 0 := by simp [badE, hi]
  cases hg : pgAt x.now i with
  | some y =>
    have ha : isAt x.now i = true := by rw [← isAt_pg h.rt.nowR, hg]; rfl
    have hE : rdE x i = 0 := by unfold rdE; rw [if_neg hb, if_pos ha]
    refine h.two (c := 0) (x1 := { x with now := delL x.now i }) hc hx hf hX ((drop_ok h.st i hi hg).mono ?_) (fun w1 mn1 tv1 _ g1 g2 => (rdrop_any g1.rt (g1.old g2).2.2.2 (hBl w1 g2) i).mono ?_)
    ·rintro e w1 ⟨rfl, g1, g2⟩
     exact ⟨rfl, mn, tv, g1, g2.mono (fun _ _ g => .inr g), .inl rfl⟩
    ·rintro e w2 ⟨rfl, H⟩
     rw [hE, if_pos rfl] at H
     exact ⟨by rw [hE], H.out⟩
  | none =>
    have ha : isAt x.now i = false := by rw [← isAt_pg h.rt.nowR, hg]; rfl
    have hE : rdE x i = 6 := by unfold rdE; rw [if_neg hb, if_neg (by simp [ha])]
    refine h.two (c := 6) (x1 := x) hc hx hf hX ((drop_none h.st i hi hg).mono ?_) (fun w1 mn1 tv1 _ g1 g2 => (rdrop_any g1.rt (g1.old g2).2.2.2 (hBl w1 g2) i).mono ?_)
    ·rintro e w1 ⟨rfl, g2⟩
     exact ⟨rfl, mn, tv, h.st.frame g2 (fun _ _ g => g.elim) (fun _ _ g => g), g2.mono (fun _ _ g => g.elim), .inl rfl⟩
    ·rintro e w2 ⟨rfl, H⟩
     rw [hE, if_neg (by omega)] at H
     exact ⟨by rw [hE], H.out⟩
 ·have hE : rdE x i = 4 := by unfold rdE; rw [if_pos (by simp [badE, hi])]
  refine h.two (c := 4) (x1 := x) hc hx hf hX ((drop_out h.st i (by omega)).mono ?_) (fun w1 mn1 tv1 _ g1 g2 => (rdrop_any g1.rt (g1.old g2).2.2.2 (hBl w1 g2) i).mono ?_)
  ·rintro e w1 ⟨rfl, rfl⟩
   exact ⟨rfl, mn, tv, h.st, Only.refl _ _, .inl rfl⟩
  ·rintro e w2 ⟨rfl, H⟩
   rw [hE, if_neg (by omega)] at H
   exact ⟨by rw [hE], H.out⟩
theorem Duo.roll (h : Duo w B P p S q K pv s mc mn tv x rv rs r tr kr nv x lk ln) (hc : PlC w B P p S q K pv d rv rs d (.pointer (some ⟨s, 0, none⟩)) (.pointer (some ⟨r, 0, none⟩))) (hx : x.size = N / 4) (hf : Fd d N m) (hX : Off X P p S q K pv rv rs s mc mn r nv) :
  Two w B P p S q K N m X 23 24 #[.pointer (some ⟨s, 0, none⟩)] #[.pointer (some ⟨r, 0, none⟩)] := by
 refine h.two (c := 0) (x1 := { x with now := x.com }) hc hx hf hX ((rollback_ok h.st (h.old hc).2.2.1).mono ?_) (fun w1 mn1 tv1 _ g1 g2 => (rroll_any g1.rt (g1.old g2).2.2.2 (by have := g2.pB; have := g2.lt; omega)).mono ?_)
 ·rintro e w1 ⟨mn', rfl, H⟩
  obtain ⟨g1, g2, g3⟩ := H.out
  exact ⟨rfl, mn', tv, g1, g2.mono (fun _ _ g => .inl g), .inr g3⟩
 ·rintro e w2 ⟨rfl, H⟩
  exact ⟨rfl, H.out⟩
theorem Duo.put {u v : Value} {b : List Nat} (h : Duo w B P p S q K pv s mc mn tv x rv rs r tr kr nv x lk ln) (hc : PlC w B P p S q K pv d rv rs d (.pointer (some ⟨s, 0, none⟩)) (.pointer (some ⟨r, 0, none⟩))) (hx : x.size = N / 4) (hf : Fd d N m) (hX : Off X P p S q K pv rv rs s mc mn r nv) (i : Int) (hu : BytesAt w u b) (hv : ∀ w1, Only (fun k => k = s ∨ k = mn) w w1 → BytesAt w1 v b) :
  Two w B P p S q K N m X 12 26 #[.pointer (some ⟨s, 0, none⟩), .int .i64 i, u] #[.pointer (some ⟨r, 0, none⟩), .int .i64 i, v] := by
 have hBl : ∀ w1 : World, PlC w1 B P p S q K pv d rv rs d (.pointer (some ⟨s, 0, none⟩)) (.pointer (some ⟨r, 0, none⟩)) → B ≤ w1.heap.size := fun w1 g => by have := g.pB; have := g.lt; omega
 have same : ∀ w1 : World, Duo w1 B P p S q K pv s mc mn tv x rv rs r tr kr nv x lk ln → ∀ (e : Ending) (w2 : World), w2 = w1 → RsIs w1 (refE (eR P p S pv s mc mn) w1.heap.size q K rv rs) B r q nv x w2 := by
  rintro w1 g e w2 rfl
  exact ⟨tr, kr, nv, lk, ln, g.rt, Only.refl _ _, fun b g => .inl g⟩
 obtain ⟨au, cu, rfl, _⟩ := hu.form
 obtain ⟨av, cv, rfl, _⟩ := (hv w (Only.refl _ _)).form
 by_cases hi : 0 ≤ i ∧ i < 728
 ·have hb : ¬ badE i ≠ 0 := by simp [badE, hi]
  by_cases hl : b.length ≤ 116
  ·refine h.two (c := 0) (x1 := { x with now := putL x.now i (0, b) }) hc hx hf hX ((put_ok h.st (h.old hc).2.2.1 i hi _ b hu hl).mono ?_) (fun w1 mn1 tv1 ho g1 g2 => ?_)
   ·rintro e w1 ⟨rfl, g1, g2⟩
    exact ⟨rfl, mn, tv, g1, g2.mono (fun _ _ g => .inr g), .inl rfl⟩
   ·cases ha : isAt x.now i with
    | true =>
      refine (rput4_is g1.rt (g1.old g2).2.2.2 (hBl w1 g2) i hi _ b (hv w1 ho) hl ha).mono ?_
      rintro e w2 ⟨rfl, H⟩
      exact ⟨rfl, H.out⟩
    | false =>
      refine (rput4_not g1.rt (g1.old g2).2.2.2 (hBl w1 g2) i hi _ b (hv w1 ho) hl ha).mono ?_
      rintro e w2 ⟨rfl, H⟩
      exact ⟨rfl, H.out⟩
  ·have hE : rpE i b.length = 11 := by unfold rpE; rw [if_neg hb, if_pos (by omega)]
   refine h.two (c := 11) (x1 := x) hc hx hf hX ((put_large h.st i hi au b.length cu (by omega)).mono ?_) (fun w1 mn1 tv1 ho g1 g2 => (rput4_bad g1.rt i av b.length cv (by rw [hE]; omega)).mono ?_)
   ·rintro e w1 ⟨rfl, rfl⟩
    exact ⟨rfl, mn, tv, h.st, Only.refl _ _, .inl rfl⟩
   ·rintro e w2 ⟨rfl, rfl⟩
    exact ⟨by rw [hE], tr, kr, nv, lk, ln, g1.rt, Only.refl _ _, fun b g => .inl g⟩
 ·have hE : rpE i b.length = 4 := by unfold rpE; rw [if_pos (by simp [badE, hi])]
  refine h.two (c := 4) (x1 := x) hc hx hf hX ((put_out h.st i (by omega) _).mono ?_) (fun w1 mn1 tv1 ho g1 g2 => (rput4_bad g1.rt i av b.length cv (by rw [hE]; omega)).mono ?_)
  ·rintro e w1 ⟨rfl, rfl⟩
   exact ⟨rfl, mn, tv, h.st, Only.refl _ _, .inl rfl⟩
  ·rintro e w2 ⟨rfl, rfl⟩
   exact ⟨by rw [hE], tr, kr, nv, lk, ln, g1.rt, Only.refl _ _, fun b g => .inl g⟩
end
section
variable {w w1 w2 : World} {B P p S q K X N m s mc mn mn1 r : Nat} {pv pv' rv rv' sv rp tv tv1 tr kr nv : Value} {rs rs' : List RW} {d e : DS} {x x1 y y1 : SS} {lk ln : List RPg}
theorem Duo.commit (h : Duo w B P p S q K pv s mc mn tv x rv rs r tr kr nv x lk ln) (hc : PlC w B P p S q K pv d rv rs d (.pointer (some ⟨s, 0, none⟩)) (.pointer (some ⟨r, 0, none⟩))) (hx : x.size = N / 4) (hf : Fd d N m) (hX : Off X P p S q K pv rv rs s mc mn r nv) (hm : m ≤ 8589934592) :
  Two w B P p S q K N (m + 4000) X 20 21 #[.pointer (some ⟨s, 0, none⟩)] #[.pointer (some ⟨r, 0, none⟩)] := by
 have hpd := hf.pd
 have hBw : B ≤ w.heap.size := by have := hc.pB; have := hc.lt; omega
 have hN := h.not
 have hsl := h.st.lt
 have hrl := h.rt.lt
 have hsB := h.sB
 have hrB := h.rt.rB
 have C1 := commit_anyE (E := eP P q K rv rs r nv) h.st (h.old hc).1 hc.dk hBw hf.by_ hf.gd (by omega)
 have hfc := hf.cm h.rt.wf h.rt.nowR h.rt.n728 h.rt.bytes
 have ns := hN.1 s (.inl rfl)
 have nr := hN.2 r (.inr rfl)
 by_cases hfit : needN x ≤ freeN x x.size
 ·by_cases h0 : (cmX x d).1 = 0
  ·refine ⟨0, C1.mono ?_⟩
   rintro e w1 H
   rcases H.out with ⟨g, _⟩ | ⟨_, g, _⟩ | ⟨_, _, rfl, pv1, mc1, mn1, tv1, g1, gs, go, g3, g4, g5⟩
   ·omega
   ·exact absurd h0 g
   ·have c1 : PlC w1 B P p S q K pv1 (cmX x d).2 rv rs d (.pointer (some ⟨s, 0, none⟩)) (.pointer (some ⟨r, 0, none⟩)) := hc.prog (X := fun k => k = s) g1 go (fun k g => by rw [g]; exact ⟨ns.1, ns.2.2⟩) g3
    have d1 := h.prog gs (go.mono (fun k _ g => g.elim .inl (fun g => .inr (.inl g)))) g3 (.inr g4) (.inr g5) hBw
    have hs1 := go.size
    have k1 : KeepC P X w w1 := KeepC.of go (fun g => g.elim hc.a1 (fun g => ns.1 g.symm)) (fun g => hX.2 (g.elim (fun g => .inr (.inl g)) (fun g => .inr (.inr (.inl g)))))
    refine ⟨rfl, k1, (rCommit_any (E := eR P p S pv1 s mc1 mn1) d1.rt c1.rf (by omega) hf.by_ hf.gd (by omega) (by rw [hf.n_, hx])).mono ?_⟩
    rintro e w2 H2
    rcases H2.out with ⟨g, _⟩ | ⟨_, g, _⟩ | ⟨_, _, rfl, hU⟩
    ·omega
    ·exact absurd h0 g
    ·obtain ⟨rv1, rs1, tr1, kr1, lk1, ln1, m1, m2⟩ := hU.all
     have d2 := d1.doc (d1.old c1).2.1 m2 m1.ho m1.sub (fun b g => .inl g)
     have c2 : PlC w2 B P p S q K pv1 (cmX x d).2 rv1 rs1 (cmX x d).2 (.pointer (some ⟨s, 0, none⟩)) (.pointer (some ⟨r, 0, none⟩)) := c1.doc (X := fun k => nv.ownBlock = some k ∨ k = r) m1.ref m1.ho (fun k g => ⟨(d1.not.2 k g).1, (d1.not.2 k g).2.1⟩) m1.sub
     have k2 : KeepC P X w1 w2 := KeepC.of m1.ho (fun g => g.elim hc.a2 (fun g => (hN.2 P g).1 rfl)) (fun g => hX.1 (g.elim (fun g => .inr (.inl g)) (fun g => g.elim (fun g => .inr (.inr (.inr g))) (fun g => .inr (.inr (.inl g))))))
     have hok : PlOk w2 B P p S q K N (m + 4000) := ⟨pv1, _, rv1, rs1, _, _, c2, .inr (.inr ⟨s, r, mc1, mn1, tv1, tr1, kr1, nv, x.next, lk1, ln1, rfl, rfl, hx, d2⟩), hfc⟩
     refine ⟨rfl, k1.trans k2, hok.thenA (k1.trans k2) ((go.mono (fun k _ g => ?_)).trans (m1.ho.mono (fun k _ g => ?_)) (fun _ _ g => g))⟩
     ·rcases g with g | g
      ·exact (hc.dk.lt k g).1
      ·omega
     ·rcases g with g | g | g
      ·exact (hc.rf.lt k g).1
      ·exact (h.rt.now.lt k g).1
      ·omega
  ·refine ⟨3, C1.mono ?_⟩
   rintro e w1 H
   rcases H.out with ⟨g, _⟩ | ⟨_, _, rfl, pv1, g1, gs, go, g3⟩ | ⟨_, g, _⟩
   ·omega
   ·have c1 : PlC w1 B P p S q K pv1 (cmX x d).2 rv rs d (.pointer (some ⟨s, 0, none⟩)) (.pointer (some ⟨r, 0, none⟩)) := hc.prog (X := fun k => k = s) g1 go (fun k g => by rw [g]; exact ⟨ns.1, ns.2.2⟩) g3
    have hs1 := go.size
    have k1 : KeepC P X w w1 := KeepC.of go (fun g => g.elim hc.a1 (fun g => ns.1 g.symm)) (fun g => hX.2 (g.elim (fun g => .inr (.inl g)) (fun g => .inr (.inr (.inl g)))))
    have rt1 : RsAt w1 (refE (fun _ => False) w1.heap.size q K rv rs) B r q tr kr nv x lk ln := h.rt.frame go (fun k hk g => .inr ⟨g.elim (fun g => .inr (.inl g)) (fun g => .inr (.inr (.inl g))), hk⟩) (fun k hk g => g.elim .inl (fun g => g.1.elim))
    refine ⟨rfl, k1, (rCommit_any (E := fun _ => False) rt1 c1.rf (by omega) hf.by_ hf.gd (by omega) (by rw [hf.n_, hx])).mono ?_⟩
    rintro e w2 H2
    rcases H2.out with ⟨g, _⟩ | ⟨_, _, rfl, hD, rv1, rs1, m1⟩ | ⟨_, g, _⟩
    ·omega
    ·have hno : ∀ k, k < w.heap.size → k ≠ P → ¬ diskB p S pv k → ¬ refB q K rv rs k → ¬ (k = P ∨ diskB p S pv1 k ∨ refB q K rv1 rs1 k) := by
      rintro k hk a1 a2 a3 (g | g | g)
      ·exact a1 g
      ·rcases g with g | g | g
       ·exact a2 (.inl g)
       ·exact a2 (.inr (.inl g))
       ·rcases g3 k g with g | g
        ·exact a2 (.inr (.inr g))
        ·omega
      ·rcases m1.sub k g with g | g
       ·exact a3 g
       ·omega
     have n1 : ∀ k, (nv.ownBlock = some k ∨ k = r) → k ≠ P ∧ ¬ diskB p S pv1 k := fun k g => by
      have hk : k < w.heap.size := by
       rcases g with g | g
       ·exact (h.rt.now.lt k g).2
       ·omega
      have := hN.2 k g
      have := hno k hk this.1 this.2.1 this.2.2
      exact ⟨fun g => this (.inl g), fun g => this (.inr (.inl g))⟩
     have c2 : PlC w2 B P p S q K pv1 (cmX x d).2 rv1 rs1 (cmX x d).2 (.pointer (some ⟨s, 0, none⟩)) (.pointer (some ⟨r, 0, none⟩)) := c1.doc (X := fun k => nv.ownBlock = some k ∨ k = r) m1.ref m1.ho n1 m1.sub
     have k2 : KeepC P X w1 w2 := KeepC.of m1.ho (fun g => g.elim hc.a2 (fun g => (hN.2 P g).1 rfl)) (fun g => hX.1 (g.elim (fun g => .inr (.inl g)) (fun g => g.elim (fun g => .inr (.inr (.inr g))) (fun g => .inr (.inr (.inl g))))))
     have hs2 := m1.ho.size
     have sE : ¬ eP P q K rv rs r nv s := fun g => h.st.k1 (.inr g)
     have hok : PlOk w2 B P p S q K N (m + 4000) := ⟨pv1, _, rv1, rs1, _, _, c2, .inr (.inl ⟨s, r, rfl, rfl, m1.ho.cell gs (fun g => sE (g.elim (fun g => .inr (.inl g)) (fun g => g.elim (fun g => .inr (.inr (.inr g))) (fun g => .inr (.inr (.inl g)))))), hD, ⟨by omega, hno s hsl ns.1 ns.2.1 ns.2.2⟩, ⟨by omega, hno r hrl nr.1 nr.2.1 nr.2.2⟩⟩), hfc⟩
     refine ⟨rfl, k1.trans k2, hok.thenA (k1.trans k2) ((go.mono (fun k _ g => ?_)).trans (m1.ho.mono (fun k _ g => ?_)) (fun _ _ g => g))⟩
     ·rcases g with g | g
      ·exact (hc.dk.lt k g).1
      ·omega
     ·rcases g with g | g | g
      ·exact (hc.rf.lt k g).1
      ·exact (h.rt.now.lt k g).1
      ·omega
    ·exact absurd g h0
   ·exact absurd g h0
 ·refine h.two (c := 7) (x1 := x) hc hx (hf.mono (by omega)) hX (C1.mono ?_) (fun w1 mn1 tv1 ho g1 g2 => (rCommit_any (E := eR P p S pv s mc mn1) g1.rt g2.rf (by have := ho.size; omega) hf.by_ hf.gd (by omega) (by rw [hf.n_, hx])).mono ?_)
  ·rintro e w1 H
   rcases H.out with ⟨_, rfl, go⟩ | ⟨g, _⟩ | ⟨g, _⟩
   ·exact ⟨rfl, mn, tv, h.st.frame go (fun _ _ g => g.elim) (fun _ _ g => g), go.mono (fun _ _ g => g.elim), .inl rfl⟩
   ·omega
   ·omega
  ·rintro e w2 H
   rcases H.out with ⟨_, rfl, go⟩ | ⟨g, _⟩ | ⟨g, _⟩
   ·exact ⟨rfl, tr, kr, nv, lk, ln, g1.rt.frame go (fun _ _ g => g.elim) (fun _ _ g => g), go.mono (fun _ _ g => g.elim), fun b g => .inl g⟩
   ·omega
   ·omega
end
def GetTwo (w : World) (B P p S q K n m X s r : Nat) (i : Int) : Prop := ∃ y : Int, Calls Tryz.prog 13 #[.pointer (some ⟨s, 0, none⟩), .int .i64 i] w fun e w1 => ∃ u, e = .returned (.tuple #[u, .int .i64 y]) ∧ Hid (KeepC P X w w1) ∧
 Hid (∀ w1', Only (fun _ => False) w1 w1' → Calls Tryz.prog 17 #[.pointer (some ⟨r, 0, none⟩), .int .i64 i] w1' fun e w2 => ∃ v, e = .returned (.tuple #[v, .int .i64 y]) ∧ Hid (KeepC P X w w2) ∧ Hid (Calls Tryz.prog 10 #[u, v] w2 fun e w3 => e = .returned (.bool true) ∧ Hid (PlOk w3 B P p S q K n m ∧ Only (fun k => B ≤ k) w w3)))
section
variable {w w1 w2 W : World} {B P p S q K X N m s mc mn mn1 r : Nat} {pv pv' rv rv' sv rp tv tv1 tr kr nv : Value} {rs rs' : List RW} {d e : DS} {x x1 y y1 : SS} {lk ln : List RPg}
theorem get_two (hok : PlOk w B P p S q K N m) {y : Int} {D : List Nat} {i : Int} (h1 : Calls Tryz.prog 13 #[.pointer (some ⟨s, 0, none⟩), .int .i64 i] w fun e w1 => ∃ u, e = .returned (.tuple #[u, .int .i64 y]) ∧ Hid (BytesAt w1 u D ∧ Only (fun _ => False) w w1))
  (h2 : ∀ w1, Only (fun _ => False) w w1 → Calls Tryz.prog 17 #[.pointer (some ⟨r, 0, none⟩), .int .i64 i] w1 fun e w2 => ∃ v, e = .returned (.tuple #[v, .int .i64 y]) ∧ Hid (BytesAt w2 v D ∧ Only (fun _ => False) w1 w2)) : GetTwo w B P p S q K N m X s r i := by
 refine ⟨y, h1.mono ?_⟩
 rintro e w1 ⟨u, rfl, H1⟩
 obtain ⟨g1, o1⟩ := H1.out
 refine ⟨u, rfl, KeepC.of o1 (fun g => g) (fun g => g), fun w1' o1' => (h2 w1' (o1.trans o1' (fun _ _ g => g))).mono ?_⟩
 rintro e w2 ⟨v, rfl, H2⟩
 obtain ⟨g2, o2⟩ := H2.out
 have o12 : Only (fun _ => False) w1 w2 := o1'.trans o2 (fun _ _ g => g)
 have o02 : Only (fun _ => False) w w2 := o1.trans o12 (fun _ _ g => g)
 refine ⟨v, rfl, KeepC.of o02 (fun g => g) (fun g => g), (same_any u v D w2 (g1.frame o12) g2).mono ?_⟩
 rintro e w3 ⟨rfl, o3⟩
 have o03 : Only (fun _ => False) w w3 := o02.trans o3 (fun _ _ g => g)
 exact ⟨rfl, hok.still o03, o03.mono (fun _ _ g => g.elim)⟩
structure OpsOk (w : World) (B P p S q K N m X s r : Nat) : Prop where
 drop : ∀ W, Only (fun _ => False) w W → ∀ i, Two W B P p S q K N m X 18 19 #[.pointer (some ⟨s, 0, none⟩), .int .i64 i] #[.pointer (some ⟨r, 0, none⟩), .int .i64 i]
 roll : ∀ W, Only (fun _ => False) w W → Two W B P p S q K N m X 23 24 #[.pointer (some ⟨s, 0, none⟩)] #[.pointer (some ⟨r, 0, none⟩)]
 commit : ∀ W, Only (fun _ => False) w W → Two W B P p S q K N m X 20 21 #[.pointer (some ⟨s, 0, none⟩)] #[.pointer (some ⟨r, 0, none⟩)]
 put : ∀ W, Only (fun _ => False) w W → ∀ i u v b, BytesAt W u b → (∀ w1, Only (fun k => B ≤ k) W w1 → BytesAt w1 v b) → Two W B P p S q K N m X 12 26 #[.pointer (some ⟨s, 0, none⟩), .int .i64 i, u] #[.pointer (some ⟨r, 0, none⟩), .int .i64 i, v]
 get : ∀ W, Only (fun _ => False) w W → ∀ i, GetTwo W B P p S q K N m X s r i
theorem PlC.ops (hc : PlC w B P p S q K pv d rv rs d sv rp) (hk : StK w B P p S q K pv rv rs N sv rp) (hf : Fd d N m) (hm : m ≤ 8589934592) (hX : w.heap.size ≤ X) :
  (sv = .pointer none ∧ rp = .pointer none) ∨ ∃ s r, sv = .pointer (some ⟨s, 0, none⟩) ∧ rp = .pointer (some ⟨r, 0, none⟩) ∧ OpsOk w B P p S q K N (m + 4000) X s r := by
 rcases hk with hk | ⟨s, r, rfl, rfl, h1, h2, h3, h4⟩ | ⟨s, r, mc, mn, tv, tr, kr, nv, x, lk, ln, rfl, rfl, e3, h⟩
 ·exact .inl hk
 ·refine .inr ⟨s, r, rfl, rfl, ?_⟩
  have hok : ∀ W, Only (fun _ => False) w W → PlOk W B P p S q K N (m + 4000) := fun W ho => by
   refine PlOk.still ⟨pv, d, rv, rs, _, _, hc, .inr (.inl ⟨s, r, rfl, rfl, h1, h2, h3, h4⟩), hf.mono (by omega)⟩ ho
  have c1 : ∀ W, Only (fun _ => False) w W → W.cell? ⟨s, 0, none⟩ = some (.pointer none) := fun W ho => ho.cell h1 (fun g => g)
  have c2 : ∀ W, Only (fun _ => False) w W → W.cell? ⟨r, 6, none⟩ = some (.bool true) := fun W ho => ho.cell h2.1 (fun g => g)
  exact
   { drop := fun W ho i => dead_two (hok W ho) (drop_dead s i W (c1 W ho)) (rdrop_dead r i W (c2 W ho))
     roll := fun W ho => dead_two (hok W ho) (roll_dead s W (c1 W ho)) (rroll_dead r W (c2 W ho))
     commit := fun W ho => dead_two (hok W ho) (commit_dead s W (c1 W ho)) (rCommit_dead r W (c2 W ho))
     put := fun W ho i u v b _ _ => dead_two (hok W ho) (put_dead s i u W (c1 W ho)) (rput4_dead r i v W (c2 W ho))
     get := fun W ho i => get_two (hok W ho) (y := 3) (D := []) ((get_dead s i W (c1 W ho)).mono (by
         rintro e w1 ⟨rfl, rfl⟩
         exact ⟨_, rfl, BytesAt.none _ _ (fun _ => rfl), Only.refl _ _⟩))
      (fun w1 ho1 => (rget_dead r i w1 (c2 w1 (ho.trans ho1 (fun _ _ g => g)))).mono (by
       rintro e w2 ⟨rfl, rfl⟩
       exact ⟨_, rfl, BytesAt.none _ _ (fun _ => rfl), Only.refl _ _⟩)) }
 ·refine .inr ⟨s, r, rfl, rfl, ?_⟩
  have hO : Off X P p S q K pv rv rs s mc mn r nv := ⟨fun g => by have := (h.old hc).1 X g; omega, fun g => by have := (h.old hc).2.1 X g; omega⟩
  have hf4 := hf.mono (show m ≤ m + 4000 by omega)
  have hok : ∀ W, Only (fun _ => False) w W → PlOk W B P p S q K N (m + 4000) := fun W ho => by
   refine PlOk.still ⟨pv, d, rv, rs, _, _, hc, .inr (.inr ⟨s, r, mc, mn, tv, tr, kr, nv, x, lk, ln, rfl, rfl, e3, h⟩), hf4⟩ ho
  exact
   { drop := fun W ho i => (h.still ho).drop (hc.still ho) e3 hf4 hO i
     roll := fun W ho => (h.still ho).roll (hc.still ho) e3 hf4 hO
     commit := fun W ho => (h.still ho).commit (hc.still ho) e3 hf hO hm
     put := fun W ho i u v b hu hv => (h.still ho).put (hc.still ho) e3 hf4 hO i hu (fun w1 ho1 => hv w1 (ho1.mono (fun k _ g => by
      rcases g with g | g
      ·have := h.sB; omega
      ·have := h.nB; omega)))
     get := fun W ho i => by
      have hE : rgE x i = gErr x i := by
       unfold rgE gErr badE
       by_cases hi : 0 ≤ i ∧ i < 728
       ·rw [if_pos hi, if_pos hi, ← isAt_pg h.rt.nowR]
        simp
       ·rw [if_neg hi, if_neg hi]
        simp
      refine get_two (hok W ho) (y := gErr x i) (D := gDat x i) ((get_all (h.still ho).st i).mono ?_) (fun w1 ho1 => (rget_any ((h.still ho).still ho1).rt i).mono ?_)
      ·rintro e w1 ⟨u, rfl, H⟩
       exact ⟨u, rfl, H.out.1.bytes, H.out.2⟩
      ·rintro e w2 ⟨v, b, rfl, H⟩
       obtain ⟨g1, g2, g3, g4⟩ := H.out
       rw [hE] at g3 g4 ⊢
       have hb : b = gDat x i := by
        by_cases h0 : gErr x i = 0
        ·have g := g3 h0
         unfold gErr at h0
         unfold gDat pgAt
         by_cases hi : 0 ≤ i ∧ i < 728
         ·rw [if_pos hi] at h0 ⊢
          rw [get_fi h.rt.nowR]
          have hs : isAt x.now i = true := by
           rw [← isAt_pg h.rt.nowR]
           by_cases hz : (pgAt x.now i).isSome = true
           ·exact hz
           ·rw [if_neg hz] at h0; omega
          rw [if_pos hs]
          cases hg : x.now[fi x.now i]? with
          | none => rw [hg] at g; cases g
          | some z =>
            rw [hg] at g
            simp only [Option.map_some, Option.some.injEq] at g
            simp [g]
         ·rw [if_neg hi] at h0; omega
        ·have g := g4 h0
         unfold gErr at h0
         unfold gDat
         by_cases hi : 0 ≤ i ∧ i < 728
         ·rw [if_pos hi] at h0 ⊢
          by_cases hz : (pgAt x.now i).isSome = true
          ·rw [if_pos hz] at h0; omega
          ·have : pgAt x.now i = none := by simpa using hz
           rw [this, g]
           rfl
         ·rw [if_neg hi, g]
       rw [← hb]
       exact ⟨v, rfl, g1, g2⟩ }
end
end Go.Proofs.YtlcglapcmdpkfaaGreat
