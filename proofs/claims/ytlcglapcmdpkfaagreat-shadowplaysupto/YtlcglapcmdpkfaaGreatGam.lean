/-     -/
import Derived.Test.YtlcglapcmdpkfaaGreatGal
import Derived.Test.YtlcglapcmdpkfaaGreatGaa
import Derived.Test.YtlcglapcmdpkfaaGreatGah
import Derived.Test.YtlcglapcmdpkfaaGreatGab
import Derived.Laws.Bits64b
import Derived.Shelf.SlIterI.Nil
import Derived.Shelf.SortM.Plain
import Derived.Shelf.SortM.SortNone
import Derived.Test.YtlcglapcmdpkfaaGreatProg
namespace Go.Proofs.YtlcglapcmdpkfaaGreat
open Go.RowKit Go.Maps
set_option linter.unusedSimpArgs false
set_option linter.unusedVariables false
set_option maxRecDepth 100000
set_option maxHeartbeats 16000000
def wfStep (L : Pgs) (r : Int × DS) (i : Nat) : Int × DS :=
 if r.1 ≠ 0 then r else r.2.wpage ((((pgAt L i).getD (0, [])).1 : Nat) : Int) (3 + 256 * i) ((pgAt L i).getD (0, [])).2
def wfR (L : Pgs) (d : DS) (fr : List Nat) : Int × DS := fr.foldl (wfStep L) (0, d)
theorem wfR_snoc (L : Pgs) (d : DS) (fr : List Nat) (i : Nat) : wfR L d (fr ++ [i]) = wfStep L (wfR L d fr) i := by simp [wfR]
theorem wf_stuck (L : Pgs) : ∀ (l : List Nat) (r : Int × DS), r.1 ≠ 0 → l.foldl (wfStep L) r = r
 | [], _, _ => rfl
 | k :: l, r, h => by
   have e : wfStep L r k = r := by simp [wfStep, h]
   rw [List.foldl_cons, e, wf_stuck L l r h]
theorem wf_whole (L : Pgs) (d : DS) (fr : List Nat) (k : Nat) (h : (wfR L d (fr.take k)).1 ≠ 0) : wfR L d fr = wfR L d (fr.take k) := by
 unfold wfR at h ⊢
 conv => lhs; rw [← List.take_append_drop k fr, List.foldl_append]
 exact wf_stuck L _ _ h
def cmR (x : SS) (L : Pgs) (fr tab at_ : List Nat) (d : DS) : Int × DS :=
 if (wfR L d fr).1 ≠ 0 then wfR L d fr
 else if (wtR tab at_ (wfR L d fr).2 (List.range (tabN tab.length))).2.1 ≠ 0 then (wtR tab at_ (wfR L d fr).2 (List.range (tabN tab.length))).2
 else if ((wtR tab at_ (wfR L d fr).2 (List.range (tabN tab.length))).2.2.barrier).1 ≠ 0 then (wtR tab at_ (wfR L d fr).2 (List.range (tabN tab.length))).2.2.barrier
 else ((wtR tab at_ (wfR L d fr).2 (List.range (tabN tab.length))).2.2.barrier).2.keep ((4 - x.sector : Nat) : Int) (byF (rootB ((x.epoch + 1) % 18446744073709551616) (at_.getD 0 0) at_.length))
theorem wf_facts (L : Pgs) (hL : ∀ i y, getL L i = some y → ∀ z ∈ y.2, z < 256) : ∀ (l : List Nat) (r : Int × DS), ByteD r.2 → Good r.2 → ByteD (l.foldl (wfStep L) r).2 ∧ Good (l.foldl (wfStep L) r).2 ∧ (l.foldl (wfStep L) r).2.pend.length ≤ r.2.pend.length + 4 * l.length ∧ (l.foldl (wfStep L) r).2.n = r.2.n
 | [], r, h1, h2 => ⟨h1, h2, by simp, rfl⟩
 | k :: l, r, h1, h2 => by
   have key : ByteD (wfStep L r k).2 ∧ Good (wfStep L r k).2 ∧ (wfStep L r k).2.pend.length ≤ r.2.pend.length + 4 ∧ (wfStep L r k).2.n = r.2.n := by
    simp only [wfStep]
    split
    ·exact ⟨h1, h2, by omega, rfl⟩
    ·have := wpage_facts (d := r.2) ((((pgAt L k).getD (0, [])).1 : Nat) : Int) (3 + 256 * k) ((pgAt L k).getD (0, [])).2 (fun z hz => by
      cases e : pgAt L k with
      | none => rw [e] at hz; cases hz
      | some y => rw [e] at hz; exact hL k y e z hz) h1 h2
     exact ⟨this.1, this.2.1, this.2.2.2, this.2.2.1⟩
   obtain ⟨i1, i2, i3, i4⟩ := wf_facts L hL l _ key.1 key.2.1
   rw [List.foldl_cons]
   refine ⟨i1, i2, ?_, i4.trans key.2.2.2⟩
   have := key.2.2.1
   simp only [List.length_cons]
   omega
theorem look_val {w : World} {av : Nat → Prop} {L : Pgs} {sl : Int → Value} (h : ∀ q ∈ L, BytesAt w (sl q.1) q.2.2 ∧ ∀ b, (sl q.1).ownBlock = some b → b < w.heap.size ∧ ¬ av b) (i : Int) :
  ∃ (a : Nat) (ad : Option Addr) (n c : Nat) (zs : List Nat), (getL (L.map fun p => (p.1, pgV sl p)) i).getD pg0 = .agg #[.int .i64 (a : Nat), .slice ad n c] ∧ BytesAt w (.slice ad n c) zs ∧ (pgAt L i).getD (0, []) = (a, zs) ∧ ∀ b, (Value.slice ad n c).ownBlock = some b → b < w.heap.size ∧ ¬ av b := by
 rw [getL_map]
 cases hf : L.find? fun p => p.1 == i with
 | none => exact ⟨0, none, 0, 0, [], rfl, ⟨.inl ⟨rfl, rfl⟩, by simp, fun z hz => by cases hz⟩, by simp [pgAt, getL, hf], fun b hb => by cases hb⟩
 | some q =>
   obtain ⟨hq1, hq2⟩ := find_key hf
   obtain ⟨h1, h2⟩ := h q hq1
   obtain ⟨ad, n, c, hs⟩ := bytes_slice h1
   rw [hs] at h1 h2
   exact ⟨q.2.1, ad, n, c, q.2.2, by simp [pgV, hs], h1, by simp [pgAt, getL, hf], h2⟩
structure WfI (wb : World) (B p S : Nat) (pv : Value) (d : DS) (L : Pgs) (fr : List Nat) (k : Nat) (W : World) : Prop where
 ok : (wfR L d (fr.take k)).1 = 0
 disk : ∃ pv', DiskAt W B p S pv' (wfR L d (fr.take k)).2 ∧ ∀ b, pv'.ownBlock = some b → pv.ownBlock = some b ∨ wb.heap.size ≤ b
 only : Only (diskB p S pv) wb W
theorem WrIs.from {w wb W W' : World} {B p S : Nat} {pv pv' : Value} {r : Int × DS} {e : Ending} (h : WrIs W B p S pv' r e W') (ob : Only (fun _ => False) w wb) (ho : Only (diskB p S pv) wb W) (hp : ∀ b, pv'.ownBlock = some b → pv.ownBlock = some b ∨ wb.heap.size ≤ b) : WrIs w B p S pv r e W' := by
 obtain ⟨he, pv2, hd, ho2, hp2⟩ := h
 have s1 := ob.size
 have s2 := ho.size
 refine ⟨he, pv2, hd, ((ob.mono (fun _ _ e => e.elim)).trans ho (fun _ _ e => e)).trans ho2 (fun k hk e => ?_), fun b hb => ?_⟩
 ·rcases e with e | e | e
  ·exact .inl e
  ·exact .inr (.inl e)
  ·rcases hp k e with e | e
   ·exact .inr (.inr e)
   ·omega
 ·rcases hp2 b hb with e | e
  ·rcases hp b e with e | e
   ·exact .inl e
   ·exact .inr (by omega)
  ·exact .inr (by omega)
structure MidI (wb : World) (B p S : Nat) (pv : Value) (d : DS) (W : World) (pv' : Value) : Prop where
 disk : DiskAt W B p S pv' d
 own : ∀ b, pv'.ownBlock = some b → pv.ownBlock = some b ∨ wb.heap.size ≤ b
 only : Only (diskB p S pv) wb W
theorem MidI.step {wb W W' : World} {B p S : Nat} {pv pv' : Value} {d : DS} {r : Int × DS} {e : Ending} (h : MidI wb B p S pv d W pv') (hw : WrIs W B p S pv' r e W') : ∃ pv2, MidI wb B p S pv r.2 W' pv2 := by
 obtain ⟨he, pv2, hd, ho2, hp2⟩ := hw
 have s2 := h.only.size
 refine ⟨pv2, hd, fun b hb => ?_, h.only.trans ho2 (fun k hk e => ?_)⟩
 ·rcases hp2 b hb with e | e
  ·exact h.own b e
  ·exact .inr (by omega)
 ·rcases e with e | e | e
  ·exact .inl e
  ·exact .inr (.inl e)
  ·rcases h.own k e with e | e
   ·exact .inr (.inr e)
   ·omega
theorem MidI.still {wb W W' : World} {B p S : Nat} {pv pv' : Value} {d : DS} (h : MidI wb B p S pv d W pv') (ho : Only (fun _ => False) W W') : MidI wb B p S pv d W' pv' :=
 ⟨h.disk.frame ho (fun _ _ e => e), h.own, h.only.trans ho (fun _ _ e => e.elim)⟩
theorem MidI.end {w wb W : World} {B p S : Nat} {pv pv' : Value} {r : Int × DS} (h : MidI wb B p S pv r.2 W pv') (ob : Only (fun _ => False) w wb) : WrIs w B p S pv r (.returned (.int .i64 r.1)) W := by
 have s1 := ob.size
 exact ⟨rfl, pv', h.disk, (ob.mono (fun _ _ e => e.elim)).trans h.only (fun _ _ e => e), fun b hb => (h.own b hb).imp id (fun e => by omega)⟩
theorem MidI.out {wb W : World} {B p S : Nat} {pv pv' : Value} {d : DS} (h : MidI wb B p S pv d W pv') {k : Nat} (hk : k < wb.heap.size) (hn : ¬ diskB p S pv k) : ¬ diskB p S pv' k := fun e => by
 rcases e with e | e | e
 ·exact hn (.inl e)
 ·exact hn (.inr (.inl e))
 ·rcases h.own k e with e | e
  ·exact hn (.inr (.inr e))
  ·omega
theorem WrIs.undrew {W W' : World} {B p S : Nat} {pv : Value} {r : Int × DS} {e : Ending} (h : WrIs W.drew B p S pv r e W') : WrIs W B p S pv r e W' := by
 obtain ⟨he, pv2, hd, ho, hp⟩ := h
 exact ⟨he, pv2, hd, ((Only.refl _ W).drew).trans ho (fun _ _ e => e), hp⟩
theorem other_raw (s t : Nat) (w : World) (h3 : w.cell? ⟨s, 3, none⟩ = some (.int .i64 (t : Nat))) (ht : t ≤ 4) : Calls Tryz.prog 59 #[.pointer (some ⟨s, 0, none⟩)] w fun e w' => e = .returned (.int .i64 ((4 - t : Nat) : Int)) ∧ w' = w := by
 have e1 : IntKind.i64.wrap (4 - (t : Int)) = ((4 - t : Nat) : Int) := by rw [IntKind.wrap_i64]; omega
 go_enter Tryz.func59, Tryz.ntmps59
 go_wp2
 go_ret
 exact ⟨rfl, rfl⟩
theorem swrite_core {w : World} {s p mc mn S B ml : Nat} {tv pv : Value} {x : SS} {d : DS} (hs : StAt w (diskB p S pv) s p mc mn tv x) (hd : DiskAt w B p S pv d) (hB : B ≤ w.heap.size) (hb : ByteD d) (hg : Good d) (hp : d.pend.length ≤ 9000000000)
  (a1 a2 a3 : Option Addr) (c1 c2 c3 : Nat) (fr tab at_ : List Nat) (L : Pgs)
  (h1 : IntsAt w (.slice a1 fr.length c1) fr) (h1b : ∀ b, (Value.slice a1 fr.length c1).ownBlock = some b → b < w.heap.size ∧ ¬ diskB p S pv b) (hfl : fr.length ≤ 728)
  (hm : PMap w (mutB (diskB p S pv) s mc mn) ml L) (hml : ¬ diskB p S pv ml) (hL : ∀ i ∈ fr, i < 728)
  (h2 : BytesAt w (.slice a2 tab.length c2) tab) (h2b : ∀ b, (Value.slice a2 tab.length c2).ownBlock = some b → b < w.heap.size ∧ ¬ diskB p S pv b) (htl : tab.length ≤ 100000)
  (h3 : IntsAt w (.slice a3 at_.length c3) at_) (h3b : ∀ b, (Value.slice a3 at_.length c3).ownBlock = some b → b < w.heap.size ∧ ¬ diskB p S pv b) (hal : at_.length = tabN tab.length) (hat : ∀ t ∈ at_, t < 2048) :
  Calls Tryz.prog 58 #[.pointer (some ⟨s, 0, none⟩), .agg #[.slice a1 fr.length c1, .map (some ml), .slice a2 tab.length c2], .slice a3 at_.length c3] w fun e w' => Hid (WrIs w B p S pv (cmR x L fr tab at_ d) e w') := by
 have hlt := hd.lt
 have hd0 : ∀ k, diskB p S pv k → k < w.heap.size := fun k hk => (hlt k hk).2
 obtain ⟨wb, hwb⟩ : ∃ q, q = w.alloc (.cells #[.slice a1 fr.length c1, .map (some ml), .slice a2 tab.length c2] 105) := ⟨_, rfl⟩
 have ob : Only (fun _ => False) w wb := by rw [hwb]; exact (Only.refl _ w).alloc _
 have sb : wb.heap.size = w.heap.size + 1 := by rw [hwb]; simp
 have bb : wb.heap[w.heap.size]? = some (.cells #[.slice a1 fr.length c1, .map (some ml), .slice a2 tab.length c2] 105 (0, 0)) := by rw [hwb]; exact heap_alloc_new w _
 have x0 : wb.cell? ⟨w.heap.size, 0, none⟩ = some (.slice a1 fr.length c1) := by rw [cell_of_row _ _ _ _ _ _ bb]; rfl
 have HW : Hid (wb = w.alloc (.cells #[.slice a1 fr.length c1, .map (some ml), .slice a2 tab.length c2] 105)) := hwb
 have HBB : Hid (wb.heap[w.heap.size]? = some (.cells #[.slice a1 fr.length c1, .map (some ml), .slice a2 tab.length c2] 105 (0, 0))) := bb
 have HOB : Hid (Only (fun _ => False) w wb) := ob
 have HS : Hid (StAt wb (diskB p S pv) s p mc mn tv x) := hs.still ob
 have HD : Hid (DiskAt wb B p S pv d) := hd.frame ob (fun _ _ e => e)
 have HH1 : Hid (IntsAt wb (.slice a1 fr.length c1) fr) := RowAt.keep h1 ob (fun _ _ e => e)
 have HC1 : Hid (∀ j, j < fr.length → ∃ g o, a1 = some ⟨g, o, none⟩ ∧ wb.cell? ⟨g, o + j, none⟩ = some (.int .i64 (fr.getD j 0 : Nat))) := by
  obtain ⟨a', c', e', hc'⟩ := RowAt.shape HH1.out
  intro j hj
  obtain ⟨g, o, ea, hcw⟩ := hc' j hj
  injection e' with e' _ _
  exact ⟨g, o, by rw [e', ea], hcw⟩
 have HH2 : Hid (BytesAt wb (.slice a2 tab.length c2) tab) := h2.keep ob (fun _ _ e => e)
 have HH3 : Hid (IntsAt wb (.slice a3 at_.length c3) at_) := RowAt.keep h3 ob (fun _ _ e => e)
 have hNd : ¬ diskB p S pv w.heap.size := fun e => by have := hd0 _ e; omega
 have HLz : Hid (∀ i y, getL L i = some y → ∀ z ∈ y.2, z < 256) := fun i y e z hz => by
  have hr := hm.rise
  obtain ⟨sl, _, hb'⟩ := hm
  exact (hb' (i, y) ((getL_mem hr i y).1 e)).1.2.2 z hz
 have hsl := hs.lt
 have hmll := hm.lt
 obtain ⟨sl, hmp, hdt⟩ := hm.frame ob (fun e => e) (fun _ _ e => e.elim) (fun _ _ e => e)
 have HMP : Hid (MapAt wb ml (L.map fun p => (p.1, pgV sl p))) := hmp
 have HDT : Hid (∀ q ∈ L, BytesAt wb (sl q.1) q.2.2 ∧ ∀ b, (sl q.1).ownBlock = some b → b < wb.heap.size ∧ ¬ mutB (diskB p S pv) s mc mn b) := hdt
 clear hmp hdt
 have HAL : Hid (at_.length = tabN tab.length) := hal
 clear hwb h1 h2 h3 hs hd hm ob bb hal
 obtain ⟨F1, hF1⟩ : ∃ F, F = fr.length := ⟨_, rfl⟩
 have HF1 : Hid (F1 = fr.length) := hF1
 rw [← hF1] at x0 ⊢
 clear hF1
 go_enter Tryz.func58, Tryz.ntmps58
 go_wp2_with fail
 rw [HF1.out, ← HW.out, ← HF1.out]
 go_wp2
 clear x0
 go_loopw [16] (fun t W => ∃ k : Nat, k ≤ F1 ∧ t = .int .i64 k ∧ WfI wb B p S pv d L fr k W) (fun t _ => F1 - (intOf t).toNat)
 case atStart => exact ⟨0, by omega, rfl, ⟨rfl, ⟨pv, HD.out, fun b hb => .inl hb⟩, Only.refl _ _⟩⟩
 case round =>
  obtain ⟨k, hk, rfl, hI⟩ := hrel
  obtain ⟨W, rfl⟩ : ∃ w9, w9 = wr := ⟨_, rfl⟩
  have HI : Hid (WfI wb B p S pv d L fr k W) := hI
  obtain ⟨pv', hd', hp'⟩ := hI.disk
  have hsW := HS.out.frame hI.only (fun _ _ e => e) (dk' := diskB p S pv') (fun k hk e => by
   rcases e with e | e | e
   ·exact .inl e
   ·exact .inr (.inl e)
   ·rcases hp' k e with e | e
    ·exact .inr (.inr e)
    ·omega)
  by_cases hlt : k < F1
  ·have k1 : (k : Int) < (F1 : Int) := by omega
   have k0 : (0 : Int) ≤ (k : Int) := by omega
   have hkf : k < fr.length := by rw [← HF1.out]; exact hlt
   obtain ⟨g, o, rfl, hcw⟩ := HC1.out k hkf
   obtain ⟨i, hi⟩ : ∃ i, i = fr.getD k 0 := ⟨_, rfl⟩
   have himem : i ∈ fr := by rw [hi]; simp [List.getD, hkf]
   have hi728 := hL i himem
   obtain ⟨g1, g2⟩ := h1b g rfl
   have hcW : W.cell? ⟨g, o + k, none⟩ = some (.int .i64 (i : Nat)) := by rw [hi]; exact hI.only.cell hcw g2
   obtain ⟨ai, ad, nn, cc, zs, hv9, hbz0, hval, hbo⟩ := look_val HDT.out (i : Int)
   have hlook := (HMP.out.frame hI.only hml).look1 (i : Int) (by omega)
   rw [hv9] at hlook
   have hbz : BytesAt W (.slice ad nn cc) zs := hbz0.keep hI.only (fun b e e' => (hbo b e).2 (.inr (.inr (.inr e'))))
   have hfx := wf_facts L HLz.out (fr.take k) (0, d) hb hg
   have hpd : (wfR L d (fr.take k)).2.pend.length ≤ d.pend.length + 4 * (fr.take k).length := hfx.2.2.1
   have htk : (fr.take k).length ≤ 728 := by rw [List.length_take]; omega
   obtain ⟨rr, hrr⟩ : ∃ r, r = (wfR L d (fr.take k)).2.wpage (ai : Nat) (3 + 256 * i) zs := ⟨_, rfl⟩
   have hstep : wfR L d (fr.take (k + 1)) = rr := by
    have e1 : fr.take (k + 1) = fr.take k ++ [i] := by rw [List.take_succ_eq_append_getElem hkf, hi]; simp [List.getD, hkf]
    rw [e1, wfR_snoc]
    unfold wfStep
    rw [if_neg (by simpa using hI.ok), hval, hrr]
   have hBW : B ≤ W.heap.size := by have := HOB.out.size; have := hI.only.size; omega
   have f0 := field_at (ai : Int) ad nn cc
   have f1 := field_data (ai : Int) ad nn cc
   have HID := dataid_any i hi728
   have HWr : Hid (Calls Tryz.prog 82 #[.pointer (some ⟨p, 0, none⟩), .int .i64 (ai : Nat), .int .u32 ((3 + 256 * i : Nat) : Int), .slice ad nn cc] W.drew fun e W4 => e = .returned (.int .i64 rr.1) ∧ Hid (W4.cell? ⟨s, 0, none⟩ = some (.pointer (some ⟨p, 0, none⟩)) ∧ W4.cell? ⟨w.heap.size, 1, none⟩ = some (.map (some ml)) ∧ (Instr.lookup 77 (.map (some ml)) (.int .i64 (i : Int)) false).run Tryz.prog W4 = .ok (.agg #[.int .i64 (ai : Nat), .slice ad nn cc]) W4) ∧ Hid (WrIs W B p S pv' rr (.returned (.int .i64 rr.1)) W4)) := by
    refine (pwrite_all p S B (ai : Nat) (3 + 256 * i) pv' (.slice ad nn cc) _ zs W.drew (hd'.frame ((Only.refl (fun _ => False) W).drew) (fun _ _ e => e)) hBW hbz (by omega) (by omega) hfx.1 hfx.2.1).mono ?_
    rintro e W4 hw
    rw [← hrr] at hw
    obtain ⟨rfl, pv4, hd4, ho4, hp4⟩ := hw
    have ho4' : Only (diskB p S pv') W W4 := ((Only.refl _ W).drew).trans ho4 (fun _ _ e => e)
    have hbs := HOB.out.size
    have honly4 : Only (diskB p S pv) wb W4 := hI.only.trans ho4' (fun k hk e => by
     rcases e with e | e | e
     ·exact .inl e
     ·exact .inr (.inl e)
     ·rcases hp' k e with e | e
      ·exact .inr (.inr e)
      ·omega)
    have hlook4 := (HMP.out.frame honly4 hml).look1 (i : Int) (by omega)
    rw [hv9] at hlook4
    refine ⟨rfl, ⟨(HS.out.frame honly4 (fun _ _ e => e) (dk' := diskB p S pv) (fun _ _ e => e)).c0, honly4.cell (by rw [cell_of_row _ _ _ _ _ _ HBB.out]; rfl) hNd, hlook4⟩, rfl, pv4, hd4, ho4', hp4⟩
   have hlookD := (HMP.out.frame (hI.only.drew) hml).look1 (i : Int) (by omega)
   rw [hv9] at hlookD
   have c0W := hsW.c0
   have c1W : W.cell? ⟨w.heap.size, 1, none⟩ = some (.map (some ml)) := hI.only.cell (by rw [cell_of_row _ _ _ _ _ _ HBB.out]; rfl) hNd
   have HRR : Hid (rr = (wfR L d (fr.take k)).2.wpage (ai : Nat) (3 + 256 * i) zs) := hrr
   have HST : Hid (wfR L d (fr.take (k + 1)) = rr) := hstep
   have HPV : Hid (∀ b, pv'.ownBlock = some b → pv.ownBlock = some b ∨ wb.heap.size ≤ b) := hp'
   clear hI hd' hp' hsW hcw hi himem hbz0 hbz hval hbo hfx hpd htk hrr hstep hBW hv9
   go_wp2
   go_region_held3 (fun w' => w'.cell? ⟨s, 0, none⟩ = some (.pointer (some ⟨p, 0, none⟩)) ∧ w'.cell? ⟨w.heap.size, 1, none⟩ = some (.map (some ml)) ∧ (Instr.lookup 77 (.map (some ml)) (.int .i64 (i : Int)) false).run Tryz.prog w' = .ok (.agg #[.int .i64 (ai : Nat), .slice ad nn cc]) w') (first | exact HS4.out | exact ⟨c0W, c1W, hlookD⟩ | go_keep)
    (first
     | (go_at_call 83; refine (HID _).mono ?_; rintro e wz ⟨rfl, rfl⟩)
     | (go_at_call 82; refine (show Calls Tryz.prog 82 _ _ _ from HWr.out).mono ?_; rintro e W4 ⟨rfl, HS4, HW4⟩))
   all_goals
    clear HWr HID hlook hlookD c0W c1W hcW f0 f1
    by_cases hz : rr.1 = 0
    ·have HN : Hid (WfI wb B p S pv d L fr (k + 1) W4) := by
      obtain ⟨_, pv4, hd4, ho4, hp4⟩ := HW4.out
      have hI := HI.out
      have s1 := hI.only.size
      refine ⟨by rw [HST.out]; exact hz, ⟨pv4, by rw [HST.out]; exact hd4, fun b hb' => ?_⟩, hI.only.trans ho4 (fun k hk e => ?_)⟩
      ·rcases hp4 b hb' with e | e
       ·exact HPV.out b e
       ·exact .inr (by omega)
      ·rcases e with e | e | e
       ·exact .inl e
       ·exact .inr (.inl e)
       ·rcases HPV.out k e with e | e
        ·exact .inr (.inr e)
        ·omega
     clear HI HW4 HS4
     go_wp2
     go_roundw
     case rel => exact ⟨k + 1, by omega, by go_num, HN.out⟩
     case measure => simp [intOf]; omega
    ·have hz' : (rr.1 == 0) = false := by simpa using hz
     have HE : Hid (WrIs w B p S pv (cmR x L fr tab at_ d) (.returned (.int .i64 rr.1)) W4) := by
      have hbad : (wfR L d (fr.take (k + 1))).1 ≠ 0 := by rw [HST.out]; exact hz
      have e1 : cmR x L fr tab at_ d = rr := by
       have := wf_whole L d fr (k + 1) hbad
       unfold cmR
       rw [this, HST.out, if_pos hz]
      rw [e1]
      exact HW4.out.from HOB.out HI.out.only HPV.out
     clear HI HW4 HS4
     go_wp2
     go_ret
     exact HE.out
  ·have e : F1 = k := by omega
   subst e
   have k1 : ¬ (F1 : Int) < (F1 : Int) := by omega
   have hfull : fr.take F1 = fr := by rw [HF1.out, List.take_length]
   have hok := hI.ok
   rw [hfull] at hok hd'
   obtain ⟨d1, hd1⟩ : ∃ q, q = (wfR L d fr).2 := ⟨_, rfl⟩
   have HD1 : Hid (d1 = (wfR L d fr).2 ∧ (wfR L d fr).1 = 0) := ⟨hd1, hok⟩
   rw [← hd1] at hd'
   have hM : MidI wb B p S pv d1 W pv' := ⟨hd', hp', hI.only⟩
   have hfx := wf_facts L HLz.out fr (0, d) hb hg
   have hfx' : ByteD d1 ∧ Good d1 ∧ d1.pend.length ≤ d.pend.length + 4 * fr.length := by rw [hd1]; exact ⟨hfx.1, hfx.2.1, hfx.2.2.1⟩
   obtain ⟨rt, hrt⟩ : ∃ q, q = (wtR tab at_ d1 (List.range (tabN tab.length))).2 := ⟨_, rfl⟩
   have HRT : Hid (rt = (wtR tab at_ d1 (List.range (tabN tab.length))).2) := hrt
   have hbs := HOB.out.size
   have hWs := hI.only.size
   have hown : ∀ (v : Value), (∀ b, v.ownBlock = some b → b < w.heap.size ∧ ¬ diskB p S pv b) → ∀ b, v.ownBlock = some b → b < W.heap.size ∧ ¬ diskB p S pv' b := fun v hv b e => ⟨by have := (hv b e).1; omega, hM.out (by have := (hv b e).1; omega) (hv b e).2⟩
   have HWt : Hid (Calls Tryz.prog 84 #[.pointer (some ⟨p, 0, none⟩), .slice a2 tab.length c2, .slice a3 at_.length c3] W.drew fun e W4 => e = .returned (.int .i64 rt.1) ∧ Hid (W4.cell? ⟨s, 0, none⟩ = some (.pointer (some ⟨p, 0, none⟩)) ∧ W4.cell? ⟨w.heap.size, 2, none⟩ = some (.slice a2 tab.length c2)) ∧ Hid (∃ pv4, MidI wb B p S pv rt.2 W4 pv4)) := by
    refine ((callsIn_wide (n := 6)).1 (wtab_core p S B pv' d1 a2 a3 c2 c3 tab at_ W.drew (hM.disk.frame ((Only.refl (fun _ => False) W).drew) (fun _ _ e => e)) (by show B ≤ W.heap.size; omega) hfx'.1 hfx'.2.1 (by omega) ((HH2.out.keep hI.only.drew (fun b e => (h2b b e).2))) htl (RowAt.keep HH3.out hI.only.drew (fun b e => (h3b b e).2)) HAL.out hat (hown _ h2b) (hown _ h3b))).mono ?_
    rintro e W4 hw
    rw [← hrt] at hw
    have hw' := WrIs.undrew hw.out
    obtain ⟨pv4, hM4⟩ := hM.step hw'
    refine ⟨hw'.1, ⟨(HS.out.frame hM4.only (fun _ _ e => e) (dk' := diskB p S pv) (fun _ _ e => e)).c0, hM4.only.cell (by rw [cell_of_row _ _ _ _ _ _ HBB.out]; rfl) hNd⟩, pv4, hM4⟩
   have c0W := hsW.c0
   have c2W : W.cell? ⟨w.heap.size, 2, none⟩ = some (.slice a2 tab.length c2) := hI.only.cell (by rw [cell_of_row _ _ _ _ _ _ HBB.out]; rfl) hNd
   clear hI HI hd' hp' hsW hfull hok hd1 hM hfx hfx' hrt hown HC1 HH1 HMP HDT HLz HD hL hWs
   go_wp2
   go_region_held3 (fun w' => w'.cell? ⟨s, 0, none⟩ = some (.pointer (some ⟨p, 0, none⟩)) ∧ w'.cell? ⟨w.heap.size, 2, none⟩ = some (.slice a2 tab.length c2)) (first | exact HS4.out | go_keep)
    (first
     | (go_at_call 84; refine (show Calls Tryz.prog 84 _ _ _ from HWt.out).mono ?_; rintro e W4 ⟨rfl, HS4, HM4⟩))
   clear HWt c0W c2W
   obtain ⟨pv4, hM4⟩ := HM4.out
   by_cases hz : rt.1 = 0
   ·obtain ⟨rb, hrb⟩ : ∃ q, q = rt.2.barrier := ⟨_, rfl⟩
    have HRB : Hid (rb = rt.2.barrier) := hrb
    have HBr : Hid (Calls Tryz.prog 65 #[.pointer (some ⟨p, 0, none⟩)] W4 fun e W5 => e = .returned (.int .i64 rb.1) ∧ Hid (∃ pv5, MidI wb B p S pv rb.2 W5 pv5)) := by
     refine (barrier_all p S B pv4 rt.2 W4 hM4.disk).mono ?_
     rintro e W5 ⟨he, pv5, h5, h6, h7⟩
     rw [← hrb] at he h5
     have hw : WrIs W4 B p S pv4 rb (.returned (.int .i64 rb.1)) W5 := ⟨rfl, pv5, h5, h6.mono (fun _ _ e => .inl e), fun b hb' => .inl (h7 b hb')⟩
     exact ⟨he, hM4.step hw⟩
    have c04 := HS4.out.1
    clear HS4 HM4 hM4 hrb
    by_cases hzb : rb.1 = 0
    ·rw [hzb] at HBr
     go_wp2_with (go_at_call 65; refine (show Calls Tryz.prog 65 _ _ _ from HBr.out).mono ?_; rintro e W5 ⟨rfl, HM5⟩)
     clear HBr c04
     obtain ⟨pv5, hM5⟩ := HM5.out
     clear HM5
     have hs5 : StAt W5 (diskB p S pv) s p mc mn tv x := HS.out.frame hM5.only (fun _ _ e => e) (fun _ _ e => e)
     have c25 := hs5.c2
     have hI5 : IntsAt W5 (.slice a3 at_.length c3) at_ := RowAt.keep HH3.out hM5.only (fun b e => (h3b b e).2)
     have HI5 : Hid (IntsAt W5 (.slice a3 at_.length c3) at_) := hI5
     obtain ⟨E, hE⟩ : ∃ E, E = (x.epoch + 1) % 18446744073709551616 := ⟨_, rfl⟩
     have hEp := hs5.wf.epoch
     have eE : IntKind.u64.wrap ((x.epoch : Int) + 1) = (E : Int) := by rw [IntKind.wrap_u64, hE]; omega
     have hml1000 : at_.length ≤ 1000 := by rw [HAL.out]; unfold tabN; omega
     have eN : IntKind.u32.wrap (at_.length : Int) = (at_.length : Int) := by rw [IntKind.wrap_u32]; omega
     obtain ⟨h0v, hh0⟩ : ∃ q, q = at_.getD 0 0 := ⟨_, rfl⟩
     have hh0l : h0v < 2048 := by
      rw [hh0]
      simp only [List.getD]
      rcases Nat.lt_or_ge 0 at_.length with hl | hl
      ·rw [List.getElem?_eq_getElem hl]; exact hat _ (List.getElem_mem hl)
      ·rw [List.getElem?_eq_none hl]; simp
     have HHd : Hid (∀ w', IntsAt w' (.slice a3 at_.length c3) at_ → Calls Tryz.prog 85 #[.slice a3 at_.length c3] w' fun e w2 => e = .returned (.int .u32 (h0v : Nat)) ∧ w2 = w') := fun w' hw' => by rw [hh0]; exact head_any _ _ w' hw' hat
     have HEQ : Hid (E = (x.epoch + 1) % 18446744073709551616 ∧ h0v = at_.getD 0 0) := ⟨hE, hh0⟩
     have HS5 : Hid (StAt W5 (diskB p S pv) s p mc mn tv x) := hs5
     have HM5 : Hid (MidI wb B p S pv rb.2 W5 pv5) := hM5
     obtain ⟨W6, hW6⟩ : ∃ q, q = W5.alloc (.cells #[.int .u64 (E : Nat), .int .u32 (h0v : Nat), .int .u32 (at_.length : Nat)] 74) := ⟨_, rfl⟩
     have oW6 : Only (fun _ => False) W5 W6 := by rw [hW6]; exact (Only.refl _ W5).alloc _
     have bW6 : W6.heap[W5.heap.size]? = some (.cells #[.int .u64 (E : Nat), .int .u32 (h0v : Nat), .int .u32 (at_.length : Nat)] 74 (0, 0)) := by rw [hW6]; exact heap_alloc_new W5 _
     have HW6 : Hid (W6 = W5.alloc (.cells #[.int .u64 (E : Nat), .int .u32 (h0v : Nat), .int .u32 (at_.length : Nat)] 74)) := hW6
     obtain ⟨R, hR⟩ : ∃ q, q = W5.heap.size := ⟨_, rfl⟩
     have HR : Hid (R = W5.heap.size) := hR
     have sW5 : wb.heap.size ≤ W5.heap.size := hM5.only.size
     obtain ⟨rk, hrk⟩ : ∃ q, q = rb.2.keep ((4 - x.sector : Nat) : Int) (byF (rootB E h0v at_.length)) := ⟨_, rfl⟩
     have HRK : Hid (rk = rb.2.keep ((4 - x.sector : Nat) : Int) (byF (rootB E h0v at_.length))) := hrk
     have hpend : rb.2.pend.length = 0 := by
      rw [HRB.out] at hzb ⊢
      unfold DS.barrier at hzb ⊢
      split at hzb
      ·simp at hzb
      ·rename_i h9; rw [if_neg h9]; rfl
     have HBy : Hid (Calls Tryz.prog 30 #[.agg #[.int .u64 (E : Nat), .int .u32 (h0v : Nat), .int .u32 (at_.length : Nat)]] W6.drew.drew fun e W7 => ∃ g7, e = .returned (.slice (some ⟨g7, 0, none⟩) 32 32) ∧ Hid (W7.cell? ⟨s, 0, none⟩ = some (.pointer (some ⟨p, 0, none⟩)) ∧ W7.cell? ⟨s, 3, none⟩ = some (.int .i64 (x.sector : Nat)) ∧ W7.cell? ⟨R, 0, none⟩ = some (.int .u64 (E : Nat)) ∧ W7.cell? ⟨R, 1, none⟩ = some (.int .u32 (h0v : Nat)) ∧ W7.cell? ⟨R, 2, none⟩ = some (.int .u32 (at_.length : Nat))) ∧
       Hid (Calls Tryz.prog 29 #[.pointer (some ⟨p, 0, none⟩), .int .i64 ((4 - x.sector : Nat) : Int), .slice (some ⟨g7, 0, none⟩) 32 32] W7 fun e W8 => e = .returned (.int .i64 rk.1) ∧ Hid (W8.cell? ⟨s, 0, none⟩ = some (.pointer (some ⟨p, 0, none⟩)) ∧ W8.cell? ⟨s, 3, none⟩ = some (.int .i64 (x.sector : Nat)) ∧ W8.cell? ⟨R, 0, none⟩ = some (.int .u64 (E : Nat)) ∧ W8.cell? ⟨R, 1, none⟩ = some (.int .u32 (h0v : Nat)) ∧ W8.cell? ⟨R, 2, none⟩ = some (.int .u32 (at_.length : Nat))) ∧ Hid (∃ pv8, MidI wb B p S pv rk.2 W8 pv8))) := by
      refine (rootbytes_any E h0v at_.length W6.drew.drew (by rw [hE]; omega) (by omega) (by omega)).mono ?_
      rintro e W7 ⟨rfl, b7, o7⟩
      have o57 : Only (fun _ => False) W5 W7 := (oW6.drew.drew).trans o7 (fun _ _ e => e)
      have hM7 := hM5.still o57
      have hs7 := HS.out.frame hM7.only (fun _ _ e => e) (dk' := diskB p S pv) (fun _ _ e => e)
      have cR : ∀ (W' : World), W'.heap[R]? = W6.heap[R]? → W'.cell? ⟨R, 0, none⟩ = some (.int .u64 (E : Nat)) ∧ W'.cell? ⟨R, 1, none⟩ = some (.int .u32 (h0v : Nat)) ∧ W'.cell? ⟨R, 2, none⟩ = some (.int .u32 (at_.length : Nat)) := fun W' hW' => by
       rw [← hR] at bW6
       rw [bW6] at hW'
       refine ⟨?_, ?_, ?_⟩ <;> (rw [cell_of_row _ _ _ _ _ _ hW']; rfl)
      have hR6 : R < W6.heap.size := by rw [hR]; exact (Array.getElem?_eq_some_iff.1 bW6).1
      refine ⟨_, rfl, ⟨hs7.c0, hs7.c3, cR W7 (o7.block R hR6 (fun e => e))⟩, ?_⟩
      refine (keep_all p S 32 B _ pv5 rb.2 ((4 - x.sector : Nat) : Int) (byF (rootB E h0v at_.length)) W7 hM7.disk (b7.row (rootB_length _ _ _)) (by have := hM7.only.size; omega) (by rw [hpend]; omega)).mono ?_
      rintro e W8 ⟨he, pv8, h8, ho8, hp8⟩
      rw [← hrk] at he h8
      have hw8 : WrIs W7 B p S pv5 rk (.returned (.int .i64 rk.1)) W8 := ⟨rfl, pv8, h8, ho8, hp8⟩
      obtain ⟨pv9, hM8⟩ := hM7.step hw8
      have hs8 := HS.out.frame hM8.only (fun _ _ e => e) (dk' := diskB p S pv) (fun _ _ e => e)
      have hRd : ¬ diskB p S pv5 R := fun e => by have := (hM5.disk.lt R e).2; omega
      refine ⟨he, ⟨hs8.c0, hs8.c3, cR W8 ?_⟩, pv9, hM8⟩
      rw [ho8.block R (by have := o7.size; have : W6.drew.drew.heap.size = W6.heap.size := rfl; omega) hRd]
      exact o7.block R hR6 (fun e => e)
     have hsec : x.sector ≤ 4 := by have := HS5.out.wf.sector; omega
     have d0 : W6.cell? ⟨s, 0, none⟩ = some (.pointer (some ⟨p, 0, none⟩)) := (HS5.out.still oW6).c0
     have d3 : W6.cell? ⟨s, 3, none⟩ = some (.int .i64 (x.sector : Nat)) := (HS5.out.still oW6).c3
     have r0 : W6.cell? ⟨R, 0, none⟩ = some (.int .u64 (E : Nat)) := by rw [hR, cell_of_row _ _ _ _ _ _ bW6]; rfl
     have r1 : W6.cell? ⟨R, 1, none⟩ = some (.int .u32 (h0v : Nat)) := by rw [hR, cell_of_row _ _ _ _ _ _ bW6]; rfl
     have r2 : W6.cell? ⟨R, 2, none⟩ = some (.int .u32 (at_.length : Nat)) := by rw [hR, cell_of_row _ _ _ _ _ _ bW6]; rfl
     have HD6 : Hid (W6.cell? ⟨s, 0, none⟩ = some (.pointer (some ⟨p, 0, none⟩)) ∧ W6.cell? ⟨s, 3, none⟩ = some (.int .i64 (x.sector : Nat)) ∧ W6.cell? ⟨R, 0, none⟩ = some (.int .u64 (E : Nat)) ∧ W6.cell? ⟨R, 1, none⟩ = some (.int .u32 (h0v : Nat)) ∧ W6.cell? ⟨R, 2, none⟩ = some (.int .u32 (at_.length : Nat))) := ⟨d0, d3, r0, r1, r2⟩
     clear hs5 hI5 hE hh0 hM5 hml1000 hW6 oW6 bW6 hR hrk hpend d0 d3 r0 r1 r2 sW5
     go_region_held3 (fun w' => w'.cell? ⟨s, 2, none⟩ = some (.int .u64 (x.epoch : Nat)) ∧ IntsAt w' (.slice a3 at_.length c3) at_)
      (first
       | (refine ⟨?_, RowAt.keep HI5.out ((Only.refl (fun _ => False) W5).drew) (fun _ _ e => e)⟩; go_keep)
       | (refine ⟨?_, RowAt.keep HI5.out (((Only.refl (fun _ => False) W5).alloc _).drew) (fun _ _ e => e)⟩; go_keep)
       | (refine ⟨?_, RowAt.keep HI5.out (((Only.refl (fun _ => False) W5).drew.alloc _)) (fun _ _ e => e)⟩; go_keep))
      (first
       | (go_at_call 85; refine (HHd.out _ (And.right ‹_ ∧ IntsAt _ _ _›)).mono ?_; rintro e wz ⟨rfl, rfl⟩))
     all_goals
      rw [← HW6.out, ← HR.out]
      clear c25
      have HD6' := HD6.out
      go_wp2
      go_region_held3 (fun w' => w'.cell? ⟨s, 0, none⟩ = some (.pointer (some ⟨p, 0, none⟩)) ∧ w'.cell? ⟨s, 3, none⟩ = some (.int .i64 (x.sector : Nat)) ∧ w'.cell? ⟨R, 0, none⟩ = some (.int .u64 (E : Nat)) ∧ w'.cell? ⟨R, 1, none⟩ = some (.int .u32 (h0v : Nat)) ∧ w'.cell? ⟨R, 2, none⟩ = some (.int .u32 (at_.length : Nat)))
       (first | exact HS8.out | exact HS7.out | exact HD6.out | go_keep)
       (first
        | (go_at_call 59; refine (other_raw s x.sector _ (And.left (And.right ‹_ ∧ _ ∧ _ ∧ _ ∧ _›)) hsec).mono ?_; rintro e wz ⟨rfl, rfl⟩)
        | (go_at_call 30; refine (show Calls Tryz.prog 30 _ _ _ from HBy.out).mono ?_; rintro e W7 ⟨g7, rfl, HS7, HK7⟩)
        | (go_at_call 29; refine (show Calls Tryz.prog 29 _ _ _ from HK7.out).mono ?_; rintro e W8 ⟨rfl, HS8, HM8⟩))
      have HE : Hid (WrIs w B p S pv (cmR x L fr tab at_ d) (.returned (.int .i64 rk.1)) W8) := by
       have e1 : cmR x L fr tab at_ d = rk := by
        unfold cmR
        rw [if_neg (by simpa using HD1.out.2), ← HD1.out.1, if_neg (by rw [← HRT.out]; simpa using hz), ← HRT.out, ← HRB.out, if_neg (by simpa using hzb), HRK.out, HEQ.out.1, HEQ.out.2]
       rw [e1]
       obtain ⟨pv8, hM8⟩ := HM8.out
       exact hM8.end HOB.out
      clear HM8 HS8 HS7 HK7 HBy HD6 HD6'
      go_wp2
      go_ret
      exact HE.out
    ·have hzb' : (rb.1 == 0) = false := by simpa using hzb
     go_wp2_with fail
     refine (show Calls Tryz.prog 65 _ _ _ from HBr.out).mono ?_
     rintro e W5 ⟨rfl, HM5⟩
     clear HBr c04
     obtain ⟨pv5, hM5⟩ := HM5.out
     have HE : Hid (WrIs w B p S pv (cmR x L fr tab at_ d) (.returned (.int .i64 rb.1)) W5) := by
      have e1 : cmR x L fr tab at_ d = rb := by
       unfold cmR
       rw [if_neg (by simpa using HD1.out.2), ← HD1.out.1, if_neg (by rw [← HRT.out]; simpa using hz), ← HRT.out, ← HRB.out, if_pos hzb]
      rw [e1]
      exact hM5.end HOB.out
     clear hM5 HM5
     go_wp2
     go_ret
     exact HE.out
   ·have hz' : (rt.1 == 0) = false := by simpa using hz
    have HE : Hid (WrIs w B p S pv (cmR x L fr tab at_ d) (.returned (.int .i64 rt.1)) W4) := by
     have e1 : cmR x L fr tab at_ d = rt := by
      unfold cmR
      rw [if_neg (by simpa using HD1.out.2), ← HD1.out.1, if_pos (by rw [← HRT.out]; exact hz), ← HRT.out]
     rw [e1]
     exact hM4.end HOB.out
    clear HS4 HM4 hM4
    go_wp2
    go_ret
    exact HE.out
end Go.Proofs.YtlcglapcmdpkfaaGreat
namespace Go.Proofs.YtlcglapcmdpkfaaGreat
open Go.RowKit
set_option linter.unusedSimpArgs false
set_option linter.unusedVariables false
set_option maxRecDepth 100000
set_option maxHeartbeats 16000000
theorem bor8 (n : Nat) : bits .or .u8 ((n : Int) % 256) 128 = ((n % 128 + 128 : Nat) : Int) := by
 have k : ∀ x, x < 256 → x ||| 128 = x % 128 + 128 := by decide
 have e1 : (n % 256) % 2 ^ IntKind.u8.bits = n % 256 := Nat.mod_eq_of_lt (by show n % 256 < 256; omega)
 have e3 : 128 % 2 ^ IntKind.u8.bits = 128 := rfl
 have e4 : ((n : Int) % 256) = ((n % 256 : Nat) : Int) := by omega
 have e2 : (128 : Int) = ((128 : Nat) : Int) := rfl
 rw [e4, e2]
 simp only [bits, BitVec.ofInt_natCast, BitVec.toNat_or, BitVec.toNat_ofNat, e1, e3]
 rw [IntKind.wrap_u8, k _ (by omega)]
 omega
theorem band63 (n : Nat) (h : n < 18446744073709551616) : bits .and .u64 (n : Int) 9223372036854775807 = ((n % 9223372036854775808 : Nat) : Int) := by
 have := bits_and_u64_nat n 9223372036854775807 h (by omega)
 rw [show (9223372036854775807 : Int) = ((9223372036854775807 : Nat) : Int) from rfl, this]
 rw [show 9223372036854775807 = 2 ^ 63 - 1 from rfl, Nat.and_two_pow_sub_one_eq_mod]
theorem appnum_any (v : Value) (zs : List Nat) (B n : Nat) (w : World) (h : Fresh w B v zs) (hB : B ≤ w.heap.size) (hn : n < 18446744073709551616) (hl : zs.length + 9 ≤ 140737488355328) :
  Calls Tryz.prog 122 #[v, .int .u64 n] w fun e w' => ∃ u, e = .returned u ∧ Fresh w' B u (zs ++ num (n % 9223372036854775808)) ∧ Only (fun i => B ≤ i) w w' := by
 obtain ⟨i0, hi0, hz0, hz1, hz2⟩ := info_parts info5
 have hb := band63 n hn
 obtain ⟨m, hm⟩ : ∃ m, m = n % 9223372036854775808 := ⟨_, rfl⟩
 rw [← hm] at hb
 rw [← hm]
 have hm2 : m < 9223372036854775808 := by omega
 have H9 : Hid ((num m).length ≤ 9) := num_nine hm2
 have HF : Hid (Fresh w B v zs) := h
 have HB : Hid (B ≤ w.heap.size) := hB
 clear h hm
 go_enter Tryz.func122, Tryz.ntmps122
 go_wp2
 clear hb
 go_loopw [0, 1] (fun b t wr => ∃ (q : Nat) (pre : List Nat), q ≤ m ∧ t = .int .u64 q ∧ num m = pre ++ num q ∧ Fresh wr B b (zs ++ pre) ∧ Only (fun i => B ≤ i) w wr) (fun _ t _ => (intOf t).toNat)
 case atStart => exact ⟨m, [], Nat.le_refl _, rfl, rfl, by simpa using HF.out, Only.refl _ _⟩
 case round =>
  obtain ⟨q, pre, hq, rfl, hnum, hfr, ho⟩ := hrel
  obtain ⟨w2, rfl⟩ : ∃ w2, w2 = wr := ⟨_, rfl⟩
  have HN : Hid (num m = pre ++ num q) := hnum
  have HFR : Hid (Fresh w2 B u0 (zs ++ pre)) := hfr
  have HO : Hid (Only (fun i => B ≤ i) w w2) := ho
  have hpl : pre.length + (num q).length ≤ 9 := by have := H9.out; rw [hnum] at this; simpa using this
  have hq1 := num_pos q
  have hlen : (zs ++ pre).length = zs.length + pre.length := List.length_append
  have hown := hfr.1
  clear hnum hfr ho
  have hsz : B ≤ w2.heap.size := by have := HO.out.size; have := HB.out; omega
  by_cases hlt : q < 128
  ·have q1 : (q : Int) < 128 := by omega
   have hc8 : (q : Int) % 256 = q := by omega
   have hown2 := hown.alloc (.cells #[.int .u8 q] 5)
   have hnews : ∀ j u, [Value.int .u8 q][j]? = some u → (w2.alloc (.cells #[.int .u8 q] 5)).cell? ((⟨w2.heap.size, 0, none⟩ : Addr).add j) = some u := World.news_of_block (heap_alloc_new w2 _)
   have HNW : Hid _ := hnews
   clear hnews hown
   go_wp2_with (at_builtin; go_must (refine wpList_append_own_at _ rfl _ _ 37 rfl B 5 i0 _ 1 1 Tryz.underlying37 hi0 hz0 hz1 hz2 rfl (by omega) _ (zs ++ pre).length _ rfl hown2 ⟨w2.heap.size, 0, none⟩ 1 1 [.int .u8 q] rfl rfl HNW.out (by simp [Value.oneCell']) (by unfold maxLen; omega) (by omega) (by simp; omega) ?_); intro v' w3 own3 hg3 _ hb3)
   have HG : Hid _ := hg3
   have HO3 : Hid (w3.ownsRow B 5 1 v' ((zs ++ pre).length + 1) (BL (zs ++ pre) ++ [.int .u8 q])) := own3
   clear hg3 own3 hb3
   go_wp2
   go_ret
   refine ⟨v', rfl, ?_, (HO.out.alloc _).grown HG.out (fun k e hk => (World.ownsRow.lt HFR.out.1 k e).1)⟩
   rw [HN.out, num_small hlt, ← List.append_assoc]
   exact Fresh.more (l := [q]) HO3.out (by simp at hlen ⊢; omega) HFR.out.2.2 (fun z hz => by simp at hz; omega)
  ·have q1 : ¬ (q : Int) < 128 := by omega
   have q2 : (128 : Int) ≤ (q : Int) := by omega
   have hor := bor8 q
   have hnb : num q = (q % 128 + 128) :: num (q / 128) := num_big hlt
   have hown2 := hown.alloc (.cells #[.int .u8 ((q % 128 + 128 : Nat) : Int)] 5)
   have hnews : ∀ j u, [Value.int .u8 ((q % 128 + 128 : Nat) : Int)][j]? = some u → (w2.alloc (.cells #[.int .u8 ((q % 128 + 128 : Nat) : Int)] 5)).cell? ((⟨w2.heap.size, 0, none⟩ : Addr).add j) = some u := World.news_of_block (heap_alloc_new w2 _)
   have HNB : Hid _ := hnb
   obtain ⟨c, hc⟩ : ∃ c, c = q % 128 + 128 := ⟨_, rfl⟩
   have hc2 : c < 256 := by omega
   rw [← hc] at hnews hown2 hor
   have HC : Hid (c = q % 128 + 128) := hc
   have HNW : Hid _ := hnews
   clear hnews hnb hc hown
   go_wp2_with (at_builtin; go_must (refine wpList_append_own_at _ rfl _ _ 37 rfl B 5 i0 _ 1 1 Tryz.underlying37 hi0 hz0 hz1 hz2 rfl (by omega) _ (zs ++ pre).length _ rfl hown2 ⟨w2.heap.size, 0, none⟩ 1 1 [.int .u8 c] rfl rfl HNW.out (by simp [Value.oneCell']) (by unfold maxLen; omega) (by omega) (by simp; omega) ?_); intro v' w3 own3 hg3 _ hb3)
   have HG : Hid _ := hg3
   have HO3 : Hid (w3.ownsRow B 5 1 v' ((zs ++ pre).length + 1) (BL (zs ++ pre) ++ [.int .u8 c])) := own3
   clear hg3 own3 hb3
   go_wp2
   go_roundw
   case rel =>
    refine ⟨q / 128, pre ++ [c], by omega, by go_num, by rw [HN.out, HNB.out, HC.out]; simp, ?_, (HO.out.alloc _).grown HG.out (fun k e hk => (World.ownsRow.lt HFR.out.1 k e).1)⟩
    rw [← List.append_assoc]
    exact Fresh.more (l := [c]) HO3.out (by simp at hlen ⊢; omega) HFR.out.2.2 (fun z hz => by simp at hz; omega)
   case measure => simp [intOf]; omega
theorem number_any (n : Nat) (w : World) (hn : n < 18446744073709551616) :
  Calls Tryz.prog 105 #[.int .u64 n] w fun e w' => ∃ u, e = .returned u ∧ Fresh w' w.heap.size u (num (n % 9223372036854775808)) ∧ Only (fun _ => False) w w' := by
 go_enter Tryz.func105, Tryz.ntmps105
 go_wp2_with fail
 refine (appnum_any _ [] w.heap.size n w (Fresh.nil _ _) (Nat.le_refl _) hn (by simp)).mono ?_
 rintro e w' ⟨u, rfl, hf, ho⟩
 have HF : Hid (Fresh w' w.heap.size u (num (n % 9223372036854775808))) := hf
 have HO : Hid (Only (fun i => w.heap.size ≤ i) w w') := ho
 clear hf ho
 go_wp2
 go_ret
 exact ⟨u, rfl, HF.out, HO.out.mono (fun k hk e => by omega)⟩
theorem rnumber_any (n : Nat) (w : World) (hn : n < 18446744073709551616) :
  Calls Tryz.prog 111 #[.int .u64 n] w fun e w' => ∃ u, e = .returned u ∧ Fresh w' w.heap.size u (num (n % 9223372036854775808)) ∧ Only (fun _ => False) w w' := by
 obtain ⟨i0, hi0, hz0, hz1, hz2⟩ := info_parts info5
 obtain ⟨m, hm⟩ : ∃ m, m = n % 9223372036854775808 := ⟨_, rfl⟩
 have hb : (n : Int) % 9223372036854775808 = m := by omega
 rw [← hm]
 have hm2 : m < 9223372036854775808 := by omega
 have H9 : Hid ((num m).length ≤ 9) := num_nine hm2
 clear hm
 go_enter Tryz.func111, Tryz.ntmps111
 go_wp2
 have HBB : Hid ((n : Int) % 9223372036854775808 = m) := hb
 clear hb
 go_loopw [3, 0] (fun b t wr => ∃ (q : Nat) (pre : List Nat), q ≤ m ∧ t = .int .u64 q ∧ num m = pre ++ num q ∧ Fresh wr w.heap.size b pre ∧ Only (fun _ => False) w wr) (fun _ t _ => (intOf t).toNat)
 case atStart => exact ⟨m, [], Nat.le_refl _, by rw [HBB.out], rfl, Fresh.nil _ _, Only.refl _ _⟩
 case round =>
  obtain ⟨q, pre, hq, rfl, hnum, hfr, ho⟩ := hrel
  obtain ⟨w2, rfl⟩ : ∃ w2, w2 = wr := ⟨_, rfl⟩
  have HN : Hid (num m = pre ++ num q) := hnum
  have HFR : Hid (Fresh w2 w.heap.size u3 pre) := hfr
  have HO : Hid (Only (fun _ => False) w w2) := ho
  have hpl : pre.length + (num q).length ≤ 9 := by have := H9.out; rw [hnum] at this; simpa using this
  have hq1 := num_pos q
  have hown := hfr.1
  clear hnum hfr ho
  have hsz : w.heap.size ≤ w2.heap.size := HO.out.size
  by_cases hlt : q < 128
  ·have q1 : (q : Int) < 128 := by omega
   have hc8 : (q : Int) % 256 = q := by omega
   have hown2 := hown.alloc (.cells #[.int .u8 q] 5)
   have hnews : ∀ j u, [Value.int .u8 q][j]? = some u → (w2.alloc (.cells #[.int .u8 q] 5)).cell? ((⟨w2.heap.size, 0, none⟩ : Addr).add j) = some u := World.news_of_block (heap_alloc_new w2 _)
   have HNW : Hid _ := hnews
   clear hnews hown
   go_wp2_with (at_builtin; go_must (refine wpList_append_own_at _ rfl _ _ 37 rfl w.heap.size 5 i0 _ 1 1 Tryz.underlying37 hi0 hz0 hz1 hz2 rfl (by omega) _ pre.length _ rfl hown2 ⟨w2.heap.size, 0, none⟩ 1 1 [.int .u8 q] rfl rfl HNW.out (by simp [Value.oneCell']) (by unfold maxLen; omega) (by omega) (by simp; omega) ?_); intro v' w3 own3 hg3 _ hb3)
   have HG : Hid _ := hg3
   have HO3 : Hid (w3.ownsRow w.heap.size 5 1 v' (pre.length + 1) (BL pre ++ [.int .u8 q])) := own3
   clear hg3 own3 hb3
   go_wp2
   go_ret
   refine ⟨v', rfl, ?_, (HO.out.alloc _).grown HG.out (fun k e hk => by have := (World.ownsRow.lt HFR.out.1 k e).1; omega)⟩
   rw [HN.out, num_small hlt]
   exact Fresh.more (l := [q]) HO3.out (by simp; omega) HFR.out.2.2 (fun z hz => by simp at hz; omega)
  ·have q1 : ¬ (q : Int) < 128 := by omega
   have q2 : (128 : Int) ≤ (q : Int) := by omega
   have hnb : num q = (q % 128 + 128) :: num (q / 128) := num_big hlt
   have hown2 := hown.alloc (.cells #[.int .u8 ((q % 128 + 128 : Nat) : Int)] 5)
   have hnews : ∀ j u, [Value.int .u8 ((q % 128 + 128 : Nat) : Int)][j]? = some u → (w2.alloc (.cells #[.int .u8 ((q % 128 + 128 : Nat) : Int)] 5)).cell? ((⟨w2.heap.size, 0, none⟩ : Addr).add j) = some u := World.news_of_block (heap_alloc_new w2 _)
   have HNB : Hid _ := hnb
   obtain ⟨c, hc⟩ : ∃ c, c = q % 128 + 128 := ⟨_, rfl⟩
   have hc2 : c < 256 := by omega
   have hcq : (128 : Int) + (q : Int) % 128 = c := by omega
   rw [← hc] at hnews hown2
   have HC : Hid (c = q % 128 + 128) := hc
   have HNW : Hid _ := hnews
   clear hnews hnb hc hown
   go_wp2_with (at_builtin; go_must (refine wpList_append_own_at _ rfl _ _ 37 rfl w.heap.size 5 i0 _ 1 1 Tryz.underlying37 hi0 hz0 hz1 hz2 rfl (by omega) _ pre.length _ rfl hown2 ⟨w2.heap.size, 0, none⟩ 1 1 [.int .u8 c] rfl rfl HNW.out (by simp [Value.oneCell']) (by unfold maxLen; omega) (by omega) (by simp; omega) ?_); intro v' w3 own3 hg3 _ hb3)
   have HG : Hid _ := hg3
   have HO3 : Hid (w3.ownsRow w.heap.size 5 1 v' (pre.length + 1) (BL pre ++ [.int .u8 c])) := own3
   clear hg3 own3 hb3
   go_wp2
   go_roundw
   case rel =>
    refine ⟨q / 128, pre ++ [c], by omega, by go_num, by rw [HN.out, HNB.out, HC.out]; simp, ?_, (HO.out.alloc _).grown HG.out (fun k e hk => by have := (World.ownsRow.lt HFR.out.1 k e).1; omega)⟩
    exact Fresh.more (l := [c]) HO3.out (by simp; omega) HFR.out.2.2 (fun z hz => by simp at hz; omega)
   case measure => simp [intOf]; omega
end Go.Proofs.YtlcglapcmdpkfaaGreat
namespace Go.Proofs.YtlcglapcmdpkfaaGreat
open Go.RowKit Go.Maps
set_option linter.unusedSimpArgs false
set_option linter.unusedVariables false
set_option maxRecDepth 100000
set_option maxHeartbeats 16000000
def freshN (l : Pgs) : List Nat := (l.filter fun p => p.2.1 == 0).map fun p => p.1.toNat
def layK : Pgs → List Nat → Nat → Pgs
 | [], _, _ => []
 | p :: l, A, k => if p.2.1 = 0 then (if k = 0 then p else (p.1, A.getD 0 0, p.2.2)) :: layK l (A.drop 1) (k - 1) else p :: layK l A k
def tabB (l : Pgs) : List Nat := l.flatMap fun p => num p.1.toNat ++ num p.2.1
def setL {α : Type} (l : List (Int × α)) (i : Int) (v : α) : List (Int × α) := l.map fun p => if p.1 = i then (p.1, v) else p
theorem setL_keys {α : Type} (l : List (Int × α)) (i : Int) (v : α) : (setL l i v).map (·.1) = l.map (·.1) := by
 simp only [setL, List.map_map]
 apply List.map_congr_left
 intro p _
 simp only [Function.comp]
 split <;> rfl
theorem Rise.keys {α β : Type} {l : List (Int × α)} {m : List (Int × β)} (h : Rise l) (e : m.map (·.1) = l.map (·.1)) : Rise m := by
 have h1 : (l.map (·.1)).Pairwise (· < ·) := List.pairwise_map.2 h
 rw [← e] at h1
 exact List.pairwise_map.1 h1
theorem setL_mem {α : Type} {l : List (Int × α)} {i : Int} {v : α} {p : Int × α} : p ∈ setL l i v ↔ (p.1 = i ∧ p.2 = v ∧ ∃ q ∈ l, q.1 = i) ∨ (p ∈ l ∧ p.1 ≠ i) := by
 simp only [setL, List.mem_map]
 constructor
 ·rintro ⟨q, hq, rfl⟩
  by_cases e : q.1 = i
  ·rw [if_pos e]; exact .inl ⟨e, rfl, q, hq, e⟩
  ·rw [if_neg e]; exact .inr ⟨hq, e⟩
 ·rintro (⟨e1, e2, q, hq, e⟩ | ⟨hp, e⟩)
  ·exact ⟨q, hq, by rw [if_pos e]; exact Prod.ext (e.trans e1.symm) e2.symm⟩
  ·exact ⟨p, hp, by rw [if_neg e]⟩
theorem putL_set {α : Type} {l : List (Int × α)} (h : Rise l) {i : Int} (hi : ∃ q ∈ l, q.1 = i) (v : α) : putL l i v = setL l i v := by
 have h2 : Rise (setL l i v) := h.keys (setL_keys l i v)
 apply (h.put i v).ext h2
 intro k
 cases e : getL (setL l i v) k with
 | none =>
   rw [getL_none] at e ⊢
   intro p hp
   rcases (putL_mem _ _ _ _).1 hp with rfl | hp
   ·exact e (i, v) (setL_mem.2 (.inl ⟨rfl, rfl, hi⟩))
   ·exact e p (setL_mem.2 (.inr hp))
 | some u =>
   rw [getL_mem (h.put i v), putL_mem]
   rw [getL_mem h2] at e
   rcases setL_mem.1 e with ⟨e1, e2, _⟩ | e1
   ·exact .inl (Prod.ext e1 e2)
   ·exact .inr e1
theorem layK_keys : ∀ (l : Pgs) (A : List Nat) (k : Nat), (layK l A k).map (·.1) = l.map (·.1)
 | [], _, _ => rfl
 | p :: l, A, k => by
   simp only [layK]
   split
   ·rw [List.map_cons, layK_keys l]
    split <;> rfl
   ·rw [List.map_cons, layK_keys l, List.map_cons]
theorem layK_zero : ∀ (l : Pgs) (A : List Nat), layK l A 0 = l
 | [], _ => rfl
 | p :: l, A => by
   simp only [layK, if_true, Nat.zero_sub]
   rw [layK_zero l, layK_zero l]
   split <;> rfl
theorem setL_id {α : Type} {l : List (Int × α)} {i : Int} (h : ∀ p ∈ l, p.1 ≠ i) (v : α) : setL l i v = l := by
 unfold setL
 conv => rhs; rw [← List.map_id l]
 apply List.map_congr_left
 intro p hp
 rw [if_neg (h p hp)]
 rfl
theorem layK_step : ∀ (l : Pgs) (A : List Nat) (k : Nat) (i : Int) (dt : List Nat), Rise l → (∀ p ∈ l, 0 ≤ p.1) → (i, 0, dt) ∈ l → (freshN l)[k]? = some i.toNat → setL (layK l A k) i (A.getD k 0, dt) = layK l A (k + 1)
 | [], _, _, _, _, _, _, h, _ => by cases h
 | p :: l, A, k, i, dt, hr, h0, hm, hk => by
   have hp := List.pairwise_cons.1 hr
   have h0' : ∀ q ∈ l, 0 ≤ q.1 := fun q hq => h0 q (List.mem_cons_of_mem _ hq)
   have hpi := h0 p (List.mem_cons_self ..)
   have hne : ∀ q ∈ l, q.1 ≠ p.1 := fun q hq e => by have := hp.1 q hq; omega
   have hkl : ∀ (A : List Nat) (j : Nat), ∀ q ∈ layK l A j, q.1 ≠ p.1 := fun A j q hq e => by
    have : q.1 ∈ (layK l A j).map (·.1) := List.mem_map.2 ⟨q, hq, rfl⟩
    rw [layK_keys] at this
    obtain ⟨q', hq', e'⟩ := List.mem_map.1 this
    exact hne q' hq' (e'.trans e)
   have hi0 : 0 ≤ i := h0 _ hm
   by_cases hz : p.2.1 = 0
   ·have hz' : (p.2.1 == 0) = true := by simpa using hz
    simp only [freshN, List.filter_cons, hz', if_true, List.map_cons] at hk
    cases k with
    | zero =>
      have e : p.1 = i := by simp at hk; omega
      subst e
      have hpe : p = (p.1, 0, dt) := by
       rcases List.mem_cons.1 hm with e | e
       ·exact e.symm
       ·exact absurd rfl (hne (p.1, 0, dt) e)
      simp only [layK, if_pos hz, if_true, Nat.zero_sub, Nat.zero_add, Nat.sub_self, Nat.add_sub_cancel]
      rw [layK_zero]
      simp only [setL, List.map_cons, if_true]
      rw [show (l.map fun q => if q.1 = p.1 then (q.1, (A.getD 0 0, dt)) else q) = l from setL_id hne _]
      simp only [Nat.one_ne_zero, if_false]
      rw [hpe]
    | succ k =>
      have hk' : (freshN l)[k]? = some i.toNat := by simpa [freshN] using hk
      have hmem : i.toNat ∈ freshN l := List.mem_of_getElem? hk'
      obtain ⟨q, hq, hqe⟩ := List.mem_map.1 hmem
      have hql := (List.mem_filter.1 hq).1
      have hq0 := h0' q hql
      have hqi : q.1 = i := by omega
      have hpi' : p.1 ≠ i := fun e => hne q hql (by omega)
      have hm' : (i, 0, dt) ∈ l := by
       rcases List.mem_cons.1 hm with e | e
       ·exact absurd (by rw [← e]) hpi'
       ·exact e
      have ih := layK_step l (A.drop 1) k i dt hp.2 h0' hm' hk'
      simp only [layK, if_pos hz, Nat.add_sub_cancel]
      rw [if_neg (by omega), if_neg (by omega)]
      simp only [setL, List.map_cons]
      rw [if_neg hpi']
      rw [show (A.drop 1).getD k 0 = A.getD (k + 1) 0 by simp [List.getD, Nat.add_comm]] at ih
      simp only [setL] at ih
      rw [ih]
   ·have hz' : (p.2.1 == 0) = false := by simpa using hz
    simp only [freshN, List.filter_cons, hz'] at hk
    have hk' : (freshN l)[k]? = some i.toNat := by simpa [freshN] using hk
    have hm' : (i, 0, dt) ∈ l := by
     rcases List.mem_cons.1 hm with e | e
     ·rw [← e] at hz; exact absurd rfl hz
     ·exact e
    have hpi' : p.1 ≠ i := fun e => hne _ hm' e.symm
    have ih := layK_step l A k i dt hp.2 h0' hm' hk'
    simp only [layK, if_neg hz]
    simp only [setL, List.map_cons]
    rw [if_neg hpi']
    simp only [setL] at ih
    rw [ih]
theorem freshN_len (l : Pgs) : (freshN l).length ≤ l.length := by
 simp only [freshN, List.length_map]
 exact List.length_filter_le ..
theorem freshN_mem {l : Pgs} {i : Nat} (h0 : ∀ p ∈ l, 0 ≤ p.1) : i ∈ freshN l ↔ ∃ dt, ((i : Int), 0, dt) ∈ l := by
 simp only [freshN, List.mem_map, List.mem_filter, beq_iff_eq]
 constructor
 ·rintro ⟨p, ⟨hp, e⟩, rfl⟩
  refine ⟨p.2.2, ?_⟩
  have := h0 p hp
  rw [show ((p.1.toNat : Nat) : Int) = p.1 by omega, ← e]
  exact hp
 ·rintro ⟨dt, h⟩
  exact ⟨_, ⟨h, rfl⟩, by simp⟩
def layP (l : Pgs) (A : List Nat) : Pgs := layK l A (freshN l).length
theorem layP_keys (l : Pgs) (A : List Nat) : (layP l A).map (·.1) = l.map (·.1) := layK_keys _ _ _
theorem layP_rise {l : Pgs} (h : Rise l) (A : List Nat) : Rise (layP l A) := h.keys (layP_keys l A)
theorem layP_length (l : Pgs) (A : List Nat) : (layP l A).length = l.length := by
 have := congrArg List.length (layP_keys l A)
 simpa using this
theorem layP_mem : ∀ {l : Pgs} {A : List Nat} {k : Nat} {q : Int × Nat × List Nat}, q ∈ layK l A k → (q ∈ l) ∨ (((q.1, 0, q.2.2) ∈ l) ∧ (q.2.1 ∈ A ∨ q.2.1 = 0))
 | [], _, _, _, h => by cases h
 | p :: l, A, k, q, h => by
   simp only [layK] at h
   split at h
   ·rename_i hz
    rcases List.mem_cons.1 h with e | e
    ·split at e
     ·exact .inl (by rw [e]; exact List.mem_cons_self ..)
     ·subst e
      refine .inr ⟨?_, ?_⟩
      ·rw [show ((p.1, A.getD 0 0, p.2.2) : Int × Nat × List Nat).1 = p.1 from rfl]
       simp only
       rw [← hz]
       exact List.mem_cons_self ..
      ·cases A with
       | nil => exact .inr rfl
       | cons a r => exact .inl (by simp)
    ·rcases layP_mem e with e | ⟨e1, e2⟩
     ·exact .inl (List.mem_cons_of_mem _ e)
     ·refine .inr ⟨List.mem_cons_of_mem _ e1, ?_⟩
      rcases e2 with e2 | e2
      ·exact .inl (List.mem_of_mem_drop e2)
      ·exact .inr e2
   ·rcases List.mem_cons.1 h with e | e
    ·exact .inl (by rw [e]; exact List.mem_cons_self ..)
    ·rcases layP_mem e with e | ⟨e1, e2⟩
     ·exact .inl (List.mem_cons_of_mem _ e)
     ·exact .inr ⟨List.mem_cons_of_mem _ e1, e2⟩
theorem layK_data : ∀ (l : Pgs) (A : List Nat) (k : Nat), (layK l A k).map (fun p => (p.1, p.2.2)) = l.map (fun p => (p.1, p.2.2))
 | [], _, _ => rfl
 | p :: l, A, k => by
   simp only [layK]
   split
   ·rw [List.map_cons, layK_data l]
    split <;> rfl
   ·rw [List.map_cons, layK_data l, List.map_cons]
theorem tabB_byte (l : Pgs) : ∀ z ∈ tabB l, z < 256 := by
 intro z hz
 obtain ⟨p, _, hz⟩ := List.mem_flatMap.1 hz
 rcases List.mem_append.1 hz with hz | hz
 ·exact num_byte _ z hz
 ·exact num_byte _ z hz
theorem tabB_len : ∀ (l : Pgs), (∀ p ∈ l, p.1.toNat < 16384 ∧ p.2.1 < 16384) → (tabB l).length ≤ 4 * l.length
 | [], _ => by simp [tabB]
 | p :: l, h => by
   have ih := tabB_len l (fun q hq => h q (List.mem_cons_of_mem _ hq))
   obtain ⟨h1, h2⟩ := h p (List.mem_cons_self ..)
   have e1 := num_len 1 _ h1
   have e2 := num_len 1 _ h2
   have e3 : tabB (p :: l) = (num p.1.toNat ++ num p.2.1) ++ tabB l := by simp [tabB]
   rw [e3]
   simp only [List.length_append, List.length_cons]
   omega
end Go.Proofs.YtlcglapcmdpkfaaGreat
namespace Go.Proofs.YtlcglapcmdpkfaaGreat
open Go.Shelf
set_option linter.unusedSimpArgs false
set_option linter.unusedVariables false
set_option maxRecDepth 100000
set_option maxHeartbeats 16000000
def Tryz.keysA_ren : Go.Shelf.Ren := ⟨fun | 7 => 104 | 10 => 121 | n => n, fun | 23 => 77 | 26 => 3 | 3 => 82 | 28 => 126 | 0 => 0 | 27 => 125 | 33 => 176 | 4 => 4 | n => n, fun | n => n⟩
theorem Tryz.keysA : Go.Proofs.SlLaysZI.n7 Tryz.prog Tryz.keysA_ren := {
 mixed := by kernel_rfl
 f7 := ⟨Tryz.f104.name, by decide, Tryz.func104.trans (congrArg some (by kernel_rfl))⟩
 f10 := ⟨Tryz.f121.name, by decide, Tryz.func121.trans (congrArg some (by kernel_rfl))⟩
 t0 := Tryz.underlying0
 a0 := Tryz.isAgg0
 z0 := Tryz.sizeOf0
 v0 := Tryz.zeroValue0
 t4 := Tryz.underlying4
 a4 := Tryz.isAgg4
 z4 := Tryz.sizeOf4
 v4 := Tryz.zeroValue4
 t23 := Tryz.underlying77
 a23 := Tryz.isAgg77
 z23 := Tryz.sizeOf77
 v23 := Tryz.zeroValue77
 t26 := Tryz.underlying3
 a26 := Tryz.isAgg3
 z26 := Tryz.sizeOf3
 v26 := Tryz.zeroValue3
 t27 := Tryz.underlying125
 a27 := Tryz.isAgg125
 z27 := Tryz.sizeOf125
 v27 := Tryz.zeroValue125
 t28 := Tryz.underlying126
 a28 := Tryz.isAgg126
 z28 := Tryz.sizeOf126
 v28 := Tryz.zeroValue126
 t33 := Tryz.underlying176
 a33 := Tryz.isAgg176
 z33 := Tryz.sizeOf176
 v33 := Tryz.zeroValue176 }
def Tryz.sortedA_ren : Go.Shelf.Ren := ⟨fun | 6 => 103 | 8 => 119 | 9 => 120 | 11 => 132 | 13 => 134 | 12 => 133 | 23 => 146 | 24 => 147 | 14 => 137 | 15 => 138 | 16 => 139 | 17 => 140 | 18 => 141 | 19 => 142 | 20 => 143 | 21 => 144 | 22 => 145 | 25 => 150 | 26 => 151 | 27 => 152 | 28 => 153 | 29 => 154 | 30 => 155 | 31 => 156 | n => n, fun | 26 => 3 | 28 => 126 | 24 => 76 | 0 => 0 | 3 => 3 | 37 => 162 | 48 => 72 | 50 => 49 | 4 => 4 | 40 => 197 | 39 => 196 | 45 => 100 | 5 => 5 | 9 => 9 | 51 => 206 | 55 => 209 | 57 => 211 | 58 => 90 | 33 => 176 | n => n, fun | n => n⟩
theorem Tryz.sortedA : Go.Proofs.SlLaysZI.n6 Tryz.prog Tryz.sortedA_ren := {
 mixed := by kernel_rfl
 f6 := ⟨Tryz.f103.name, by decide, Tryz.func103.trans (congrArg some (by kernel_rfl))⟩
 f8 := ⟨Tryz.f119.name, by decide, Tryz.func119.trans (congrArg some (by kernel_rfl))⟩
 f11 := ⟨Tryz.f132.name, by decide, Tryz.func132.trans (congrArg some (by kernel_rfl))⟩
 t0 := Tryz.underlying0
 a0 := Tryz.isAgg0
 z0 := Tryz.sizeOf0
 v0 := Tryz.zeroValue0
 t24 := Tryz.underlying76
 a24 := Tryz.isAgg76
 z24 := Tryz.sizeOf76
 v24 := Tryz.zeroValue76
 t26 := Tryz.underlying3
 a26 := Tryz.isAgg3
 z26 := Tryz.sizeOf3
 v26 := Tryz.zeroValue3
 t28 := Tryz.underlying126
 a28 := Tryz.isAgg126
 z28 := Tryz.sizeOf126
 v28 := Tryz.zeroValue126
 i26 := by kernel_rfl }
def Tryz.sortA_ren : Go.Shelf.Ren := ⟨fun | 5 => 120 | 8 => 134 | 7 => 133 | 19 => 146 | 20 => 147 | 10 => 137 | 11 => 138 | 12 => 139 | 13 => 140 | 14 => 141 | 15 => 142 | 16 => 143 | 17 => 144 | 18 => 145 | 30 => 150 | 31 => 151 | 32 => 152 | 33 => 153 | 34 => 154 | 35 => 155 | 40 => 156 | n => n, fun | 23 => 76 | 25 => 3 | 3 => 3 | 32 => 162 | 22 => 76 | 0 => 0 | 44 => 72 | 46 => 49 | 4 => 4 | 36 => 197 | 35 => 196 | 41 => 100 | 5 => 5 | 9 => 9 | 53 => 206 | 57 => 209 | 63 => 211 | 64 => 90 | n => n, fun | n => n⟩
theorem Tryz.sortA : Go.Proofs.SlLaysM.n5 Tryz.prog Tryz.sortA_ren := {
 mixed := by kernel_rfl
 f5 := ⟨Tryz.f120.name, by decide, Tryz.func120.trans (congrArg some (by kernel_rfl))⟩
 f7 := ⟨Tryz.f133.name, by decide, Tryz.func133.trans (congrArg some (by kernel_rfl))⟩
 f8 := Tryz.func134.trans (congrArg some (by kernel_rfl))
 f10 := ⟨Tryz.f137.name, by decide, Tryz.func137.trans (congrArg some (by kernel_rfl))⟩
 f11 := ⟨Tryz.f138.name, by decide, Tryz.func138.trans (congrArg some (by kernel_rfl))⟩
 f12 := ⟨Tryz.f139.name, by decide, Tryz.func139.trans (congrArg some (by kernel_rfl))⟩
 f13 := ⟨Tryz.f140.name, by decide, Tryz.func140.trans (congrArg some (by kernel_rfl))⟩
 f14 := ⟨Tryz.f141.name, by decide, Tryz.func141.trans (congrArg some (by kernel_rfl))⟩
 f15 := ⟨Tryz.f142.name, by decide, Tryz.func142.trans (congrArg some (by kernel_rfl))⟩
 f16 := ⟨Tryz.f143.name, by decide, Tryz.func143.trans (congrArg some (by kernel_rfl))⟩
 f17 := ⟨Tryz.f144.name, by decide, Tryz.func144.trans (congrArg some (by kernel_rfl))⟩
 f18 := ⟨Tryz.f145.name, by decide, Tryz.func145.trans (congrArg some (by kernel_rfl))⟩
 f19 := Tryz.func146.trans (congrArg some (by kernel_rfl))
 f20 := Tryz.func147.trans (congrArg some (by kernel_rfl))
 f30 := ⟨Tryz.f150.name, by decide, Tryz.func150.trans (congrArg some (by kernel_rfl))⟩
 f31 := Tryz.func151.trans (congrArg some (by kernel_rfl))
 f32 := Tryz.func152.trans (congrArg some (by kernel_rfl))
 f33 := ⟨Tryz.f153.name, by decide, Tryz.func153.trans (congrArg some (by kernel_rfl))⟩
 f34 := ⟨Tryz.f154.name, by decide, Tryz.func154.trans (congrArg some (by kernel_rfl))⟩
 f35 := ⟨Tryz.f155.name, by decide, Tryz.func155.trans (congrArg some (by kernel_rfl))⟩
 f40 := ⟨Tryz.f156.name, by decide, Tryz.func156.trans (congrArg some (by kernel_rfl))⟩
 t0 := Tryz.underlying0
 a0 := Tryz.isAgg0
 z0 := Tryz.sizeOf0
 v0 := Tryz.zeroValue0
 t3 := Tryz.underlying3
 a3 := Tryz.isAgg3
 z3 := Tryz.sizeOf3
 v3 := Tryz.zeroValue3
 t4 := Tryz.underlying4
 a4 := Tryz.isAgg4
 z4 := Tryz.sizeOf4
 v4 := Tryz.zeroValue4
 t5 := Tryz.underlying5
 a5 := Tryz.isAgg5
 z5 := Tryz.sizeOf5
 v5 := Tryz.zeroValue5
 t9 := Tryz.underlying9
 a9 := Tryz.isAgg9
 z9 := Tryz.sizeOf9
 v9 := Tryz.zeroValue9
 t22 := Tryz.underlying76
 a22 := Tryz.isAgg76
 z22 := Tryz.sizeOf76
 v22 := Tryz.zeroValue76
 t23 := Tryz.underlying76
 a23 := Tryz.isAgg76
 z23 := Tryz.sizeOf76
 v23 := Tryz.zeroValue76
 t25 := Tryz.underlying3
 a25 := Tryz.isAgg3
 z25 := Tryz.sizeOf3
 v25 := Tryz.zeroValue3
 t32 := Tryz.underlying162
 a32 := Tryz.isAgg162
 z32 := Tryz.sizeOf162
 v32 := Tryz.zeroValue162
 t35 := Tryz.underlying196
 a35 := Tryz.isAgg196
 z35 := Tryz.sizeOf196
 v35 := Tryz.zeroValue196
 t36 := Tryz.underlying197
 a36 := Tryz.isAgg197
 z36 := Tryz.sizeOf197
 v36 := Tryz.zeroValue197
 t41 := Tryz.underlying100
 a41 := Tryz.isAgg100
 z41 := Tryz.sizeOf100
 v41 := Tryz.zeroValue100
 t44 := Tryz.underlying72
 a44 := Tryz.isAgg72
 z44 := Tryz.sizeOf72
 v44 := Tryz.zeroValue72
 t46 := Tryz.underlying49
 a46 := Tryz.isAgg49
 z46 := Tryz.sizeOf49
 v46 := Tryz.zeroValue49
 t53 := Tryz.underlying206
 a53 := Tryz.isAgg206
 z53 := Tryz.sizeOf206
 v53 := Tryz.zeroValue206
 t57 := Tryz.underlying209
 a57 := Tryz.isAgg209
 z57 := Tryz.sizeOf209
 v57 := Tryz.zeroValue209
 t63 := Tryz.underlying211
 a63 := Tryz.isAgg211
 z63 := Tryz.sizeOf211
 v63 := Tryz.zeroValue211
 t64 := Tryz.underlying90
 a64 := Tryz.isAgg90
 z64 := Tryz.sizeOf90
 v64 := Tryz.zeroValue90 }
end Go.Proofs.YtlcglapcmdpkfaaGreat
