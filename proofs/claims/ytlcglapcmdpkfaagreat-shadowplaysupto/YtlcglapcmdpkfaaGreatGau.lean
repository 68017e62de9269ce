/-     -/
import Derived.Test.YtlcglapcmdpkfaaGreatGar
import Derived.Test.YtlcglapcmdpkfaaGreatGat
import Derived.Test.YtlcglapcmdpkfaaGreatGag
import Derived.Test.YtlcglapcmdpkfaaGreatGak
import Derived.Test.YtlcglapcmdpkfaaGreatGaa
import Derived.BigRegion
namespace Go.Proofs.YtlcglapcmdpkfaaGreat
open Go.RowKit
set_option linter.unusedSimpArgs false
set_option linter.unusedVariables false
set_option maxRecDepth 100000
set_option maxHeartbeats 16000000
structure MidR (w : World) (B q K : Nat) (rv : Value) (rs : List RW) (d : DS) (W : World) (rv' : Value) (rs' : List RW) : Prop where
 ref : RefAt W B q K rv' d rs'
 ho : Only (refB q K rv rs) w W
 sub : ∀ b, refB q K rv' rs' b → refB q K rv rs b ∨ w.heap.size ≤ b
def RfIs (w : World) (B q K : Nat) (rv : Value) (rs : List RW) (d : DS) (W : World) : Prop := ∃ rv' rs', MidR w B q K rv rs d W rv' rs'
section
variable {w W : World} {B q K : Nat} {rv rv' : Value} {rs rs' : List RW} {d : DS}
theorem MidR.start (h : RefAt w B q K rv d rs) : MidR w B q K rv rs d w rv rs := ⟨h, Only.refl _ _, fun b e => .inl e⟩
theorem MidR.still {W' : World} (h : MidR w B q K rv rs d W rv' rs') (ho : Only (fun _ => False) W W') : MidR w B q K rv rs d W' rv' rs' :=
 ⟨h.ref.frame ho (fun _ _ e => e), h.ho.trans ho (fun _ _ e => e.elim), h.sub⟩
theorem MidR.step {W2 : World} {rv2 : Value} {rs2 : List RW} {d2 : DS} (h : MidR w B q K rv rs d W rv' rs') (h1 : RefAt W2 B q K rv2 d2 rs2) (h2 : Only (refB q K rv' rs') W W2) (h3 : ∀ b, refB q K rv2 rs2 b → refB q K rv' rs' b ∨ W.heap.size ≤ b) : MidR w B q K rv rs d2 W2 rv2 rs2 :=
 ⟨h1, h.ho.trans h2 (fun b hb e => by
  rcases h.sub b e with e | e
  ·exact e
  ·omega), fun b e => by
  rcases h3 b e with e | e
  ·exact h.sub b e
  ·exact .inr (by have := h.ho.size; omega)⟩
theorem MidR.put (h : MidR w B q K rv rs d W rv' rs') (hB : B ≤ w.heap.size) (a : Option Addr) (m c : Nat) (k : Int) (f : Nat → Int) (hr : RowAt W (.slice a m c) m 1 (fun j => .int .u8 (f j))) (hby : (d.pend.length + 1) * 72 ≤ 140737488355328) (hm : m ≤ 140737488351232) :
  Calls Tryz.prog 42 #[.pointer (some ⟨q, 0, none⟩), .int .i64 k, .slice a m c] W fun e W2 => e = .returned (.int .i64 (d.write k f m).1) ∧ Hid (RfIs w B q K rv rs (d.write k f m).2 W2) := by
 refine (rput_all h.ref a m c k f hr (by have := h.ho.size; omega) hby hm).mono ?_
 rintro e W2 ⟨rfl, rv2, rs2, h1, h2, h3⟩
 exact ⟨rfl, rv2, rs2, h.step h1 h2 h3⟩
theorem MidR.barrier (h : MidR w B q K rv rs d W rv' rs') (hg : Good d) (hp : d.pend.length ≤ 140737488351232) :
  Calls Tryz.prog 72 #[.pointer (some ⟨q, 0, none⟩)] W fun e W2 => e = .returned (.int .i64 d.barrier.1) ∧ Hid (RfIs w B q K rv rs d.barrier.2 W2) := by
 by_cases e : d.life = 0
 ·have hb : d.barrier = (3, d) := by simp [DS.barrier, e]
  rw [hb]
  refine (rbarrier_dead q W (by rw [← e]; exact h.ref.c3)).mono ?_
  rintro e w' ⟨rfl, rfl⟩
  exact ⟨rfl, _, _, h⟩
 ·have hb : d.barrier = (0, { d with pend := [], life := aged d.life }) := by simp [DS.barrier, e]
  rw [hb]
  refine (rbarrier_any h.ref hg e hp).mono ?_
  rintro e W2 ⟨rfl, h1, h2⟩
  refine ⟨rfl, _, _, h.step h1 (h2.mono (fun b _ e => e.elim .inl (fun e => .inr (.inl e)))) (fun b e => ?_)⟩
  rcases e with e | e | e | ⟨x, hx, _⟩
  ·exact .inl (.inl e)
  ·exact .inl (.inr (.inl e))
  ·cases e
  ·cases hx
theorem MidR.wpage (h : MidR w B q K rv rs d W rv' rs') (hB : B ≤ w.heap.size) (P : Int) (id : Nat) (v : Value) (D : List Nat) (hv : BytesAt W v D) (hid : id < 4294967296) (hp : d.pend.length ≤ 10000000000) (hb : ByteD d) (hg : Good d) :
  Calls Tryz.prog 91 #[.pointer (some ⟨q, 0, none⟩), .int .i64 P, .int .u32 id, v] W fun e W2 => e = .returned (.int .i64 (d.wpage P id D).1) ∧ Hid (RfIs w B q K rv rs (d.wpage P id D).2 W2) := by
 refine (rwrite_all q K B P id rv' v rs' d D W h.ref (by have := h.ho.size; omega) hv hid hp hb hg).mono ?_
 rintro e W2 ⟨rfl, rv2, rs2, h1, h2, h3⟩
 exact ⟨rfl, rv2, rs2, h.step h1 h2 h3⟩
end
theorem write_pend (d : DS) (k : Int) (f : Nat → Int) (m : Nat) : (d.write k f m).2.pend.length ≤ d.pend.length + 1 := by
 unfold DS.write
 split
 ·simp
 ·split
  ·simp
  ·split
   ·simp
   ·simp
theorem barrier_pend (d : DS) : d.barrier.2.pend.length ≤ d.pend.length := by
 unfold DS.barrier
 split
 ·exact Nat.le_refl _
 ·simp
theorem good_barrier {d : DS} (h : Good d) : Good d.barrier.2 := by
 unfold DS.barrier
 split
 ·exact h
 ·rfl
theorem rs_new {w W : World} {rk : Nat → Prop} {B r q : Nat} {N : Nat} (h : W.heap[r]? = some (.cells #[.pointer (some ⟨q, 0, none⟩), .int .i64 0, .int .u64 1, .slice none 0 0, .slice none 0 0, .slice none 0 0, .bool false] 97 (0, 0))) (hB : B ≤ r) (hrk : ¬ rk r) (h3 : 3 ≤ N) (h2 : N ≤ 2048) :
  RsAt W rk B r q (.slice none 0 0) (.slice none 0 0) (.slice none 0 0) (SS.new N) [] [] := by
 refine { cells := fun j v hv => ?_, there := fun j hj => ?_, rB := hB, k1 := hrk, k2 := (fun b e => by cases e), tabs := .inl ⟨rfl, rfl⟩, tabsB := (fun b e => by cases e), keptB := (fun b e => by cases e),
          kept := PgsAt.nil _ _ _, now := PgsAt.nil _ _ _, comE := rfl, nowE := rfl, comR := List.Pairwise.nil, nowR := List.Pairwise.nil, wf := new_wf N h3 h2 }
 ·rw [Nat.zero_add, cell_of_row _ _ _ _ _ _ h, ← hv]
  simp [rsL, SS.new]
 ·rw [Nat.zero_add]
  refine ⟨?_, frozen_of_row _ _ _ _ _ h⟩
  rw [cell_of_row _ _ _ _ _ _ h]
  have : j < 7 := hj
  simp [this]
def RFmIs (w : World) (B q K : Nat) (rv : Value) (rs : List RW) (d : DS) (e : Ending) (w' : World) : Prop :=
 (d.format.1 ≠ 0 ∧ e = .returned (.tuple #[.pointer none, .int .i64 (if d.n / 4 < 3 then 7 else 3)]) ∧ RfIs w B q K rv rs d.format.2 w') ∨
 (d.format.1 = 0 ∧ ∃ r, e = .returned (.tuple #[.pointer (some ⟨r, 0, none⟩), .int .i64 0]) ∧ w.heap.size ≤ r ∧ ∃ rv' rs', MidR w B q K rv rs d.format.2 w' rv' rs' ∧ RsAt w' (refB q K rv' rs') B r q (.slice none 0 0) (.slice none 0 0) (.slice none 0 0) (SS.new (d.n / 4)) [] [])
theorem rformat_any {w : World} {B q K : Nat} {rv : Value} {rs : List RW} {d : DS} (h : RefAt w B q K rv d rs) (hB : B ≤ w.heap.size) (hg : Good d) (hp : d.pend.length ≤ 10000000000) :
  Calls Tryz.prog 43 #[.pointer (some ⟨q, 0, none⟩)] w fun e w' => Hid (RFmIs w B q K rv rs d e w') := by
 have HC := rcount_any q d.n w h.n2 h.c0
 by_cases hn : d.n / 4 < 3
 ·have hf : d.format = (7, d) := by simp [DS.format, hn]
  have HQ : Hid (RFmIs w B q K rv rs d (.returned (.tuple #[.pointer none, .int .i64 7])) w) := .inl ⟨by rw [hf]; simp, by rw [if_pos hn], by rw [hf]; exact ⟨_, _, MidR.start h⟩⟩
  have h3 : ((d.n / 4 : Nat) : Int) < 3 := by omega
  clear h hg
  go_enter Tryz.func43, Tryz.ntmps43
  go_wp2_with fail
  refine HC.mono ?_
  rintro e w1 ⟨rfl, rfl⟩
  clear HC
  go_wp2
  go_ret2
  exact HQ
 ·have h3 : ¬ ((d.n / 4 : Nat) : Int) < 3 := by omega
  obtain ⟨wB, hwB⟩ : ∃ z, z = w.alloc (.cells #[.pointer (some ⟨q, 0, none⟩), .int .i64 0, .int .u64 1, .slice none 0 0, .slice none 0 0, .slice none 0 0, .bool false] 97) := ⟨_, rfl⟩
  have oB : Only (fun _ => False) w wB := by rw [hwB]; exact (Only.refl _ w).alloc _
  have hbox : wB.heap[w.heap.size]? = some (.cells #[.pointer (some ⟨q, 0, none⟩), .int .i64 0, .int .u64 1, .slice none 0 0, .slice none 0 0, .slice none 0 0, .bool false] 97 (0, 0)) := by rw [hwB]; exact heap_alloc_new w _
  have hsB : wB.heap.size = w.heap.size + 1 := by rw [hwB]; simp
  have hrB : RefAt wB B q K rv d rs := h.frame oB (fun _ _ e => e)
  have M0 : MidR wB B q K rv rs d wB rv rs := MidR.start hrB
  have hlt : ∀ b, refB q K rv rs b → b < w.heap.size := fun b e => (h.lt b e).2
  have hmk := mk32 (fun _ => 0) wB
  have e0 : fullF (fun _ => 0) 0 = fun _ => 0 := by funext j; simp [fullF]
  rw [e0] at hmk
  obtain ⟨Z, hZ⟩ : ∃ Z, Z = (secL (fun _ => 0)).toArray := ⟨_, rfl⟩
  rw [← hZ] at hmk
  obtain ⟨wZ, hwZ⟩ : ∃ z, z = wB.alloc (.cells Z 5) := ⟨_, rfl⟩
  have oZ : Only (fun _ => False) wB wZ := by rw [hwZ]; exact (Only.refl _ wB).alloc _
  have z32 : byF zeros32 = fun _ => 0 := by
   funext j
   unfold byF zeros32
   simp only [List.getD, List.getElem?_replicate]
   split <;> rfl
  have rowZ : RowAt wZ (.slice (some ⟨wB.heap.size, 0, none⟩) 32 32) 32 1 (fun j => .int .u8 (byF zeros32 j)) := by
   rw [z32]
   refine .inr ⟨⟨wB.heap.size, 0, none⟩, 32, rfl, Nat.le_refl _, fun j hj => ?_⟩
   rw [Addr.add_mid, Nat.zero_add, hwZ, cell_of_row _ _ _ _ _ _ (heap_alloc_new wB _), hZ]
   have := secL_get (fun _ => 0) j (by omega)
   simpa using this
  have HP1 : Hid (Calls Tryz.prog 42 _ _ _) := (M0.still oZ).put (by omega) (some ⟨wB.heap.size, 0, none⟩) 32 32 4 (byF zeros32) rowZ (by omega) (by omega)
  -- the way behind a world in which the disk is under way
  have HOUT : Hid (∀ (d' : DS) (W : World), RfIs wB B q K rv rs d' W → RfIs w B q K rv rs d' W) := fun d' W ⟨rv', rs', hm⟩ =>
   ⟨rv', rs', hm.ref, (oB.mono (fun _ _ e => e.elim)).trans hm.ho (fun _ _ e => e), fun b e => (hm.sub b e).imp id (fun e => by omega)⟩
  have HBOX : Hid (∀ (d' : DS) (W : World), RfIs wB B q K rv rs d' W → W.heap[w.heap.size]? = some (.cells #[.pointer (some ⟨q, 0, none⟩), .int .i64 0, .int .u64 1, .slice none 0 0, .slice none 0 0, .slice none 0 0, .bool false] 97 (0, 0))) := fun d' W ⟨rv', rs', hm⟩ => by
   rw [hm.ho.block _ (by omega) (fun e => by have := hlt _ e; omega)]; exact hbox
  obtain ⟨x1, hx1⟩ : ∃ x, x = d.write 4 (byF zeros32) 32 := ⟨_, rfl⟩
  rw [← hx1] at HP1
  have g1 : Good x1.2 := by rw [hx1]; exact hg.write _ _ _
  have hp1 : x1.2.pend.length ≤ d.pend.length + 1 := by rw [hx1]; exact write_pend ..
  have hk1 : d.keep 4 (byF zeros32) = if x1.1 ≠ 0 then x1 else x1.2.barrier := by unfold DS.keep; rw [← hx1]
  have HK1 : Hid (d.keep 4 (byF zeros32) = if x1.1 ≠ 0 then x1 else x1.2.barrier) := hk1
  clear hk1
  obtain ⟨x2, hx2⟩ : ∃ x, x = x1.2.barrier := ⟨_, rfl⟩
  rw [← hx2] at HK1
  have g2 : Good x2.2 := by rw [hx2]; exact good_barrier g1
  have hp2 : x2.2.pend.length ≤ d.pend.length + 1 := by rw [hx2]; exact Nat.le_trans (barrier_pend _) hp1
  obtain ⟨x3, hx3⟩ : ∃ x, x = x2.2.write 0 (byF (rootB 1 0 0)) 32 := ⟨_, rfl⟩
  have g3 : Good x3.2 := by rw [hx3]; exact g2.write _ _ _
  have hp3 : x3.2.pend.length ≤ d.pend.length + 2 := by rw [hx3]; have := write_pend x2.2 0 (byF (rootB 1 0 0)) 32; omega
  obtain ⟨x4, hx4⟩ : ∃ x, x = x3.2.barrier := ⟨_, rfl⟩
  have hfm : d.format = if x1.1 ≠ 0 then x1 else if x2.1 ≠ 0 then x2 else if x3.1 ≠ 0 then x3 else x4 := by
   unfold DS.format
   rw [if_neg hn, HK1.out]
   by_cases c1 : x1.1 = 0
   ·simp only [c1, ne_eq, not_true, if_false]
    by_cases c2 : x2.1 = 0
    ·simp only [c2, not_true, if_false]
     unfold DS.keep
     rw [← hx3, ← hx4]
    ·simp only [c2, not_false_iff, if_true]
   ·simp only [c1, ne_eq, not_false_iff, if_true]
  have HFM : Hid (d.format = if x1.1 ≠ 0 then x1 else if x2.1 ≠ 0 then x2 else if x3.1 ≠ 0 then x3 else x4) := hfm
  clear hfm
  have HN : Hid (¬ d.n / 4 < 3 ∧ 3 ≤ d.n / 4 ∧ d.n / 4 ≤ 2048) := ⟨hn, by omega, by have := h.n2; omega⟩
  have HDEAD : Hid (∀ (x : Int × DS) (W : World), d.format = x → x.1 ≠ 0 → RfIs wB B q K rv rs x.2 W → RFmIs w B q K rv rs d (.returned (.tuple #[.pointer none, .int .i64 3])) W) := fun x W hx h0 hr => .inl ⟨by rw [hx]; exact h0, by rw [if_neg HN.out.1], by rw [hx]; exact HOUT.out _ _ hr⟩
  have HOKK : Hid (∀ (x : Int × DS) (W : World), d.format = x → x.1 = 0 → RfIs wB B q K rv rs x.2 W → RFmIs w B q K rv rs d (.returned (.tuple #[.pointer (some ⟨w.heap.size, 0, none⟩), .int .i64 0])) W) := fun x W hx h0 hr => by
   obtain ⟨rv', rs', hm⟩ := HOUT.out _ _ hr
   obtain ⟨rv2, rs2, hm2⟩ := hr
   refine .inr ⟨by rw [hx]; exact h0, w.heap.size, rfl, Nat.le_refl _, rv2, rs2, ?_, ?_⟩
   ·rw [hx]
    exact ⟨hm2.ref, (oB.mono (fun _ _ e => e.elim)).trans hm2.ho (fun _ _ e => e), fun b e => (hm2.sub b e).imp id (fun e => by omega)⟩
   ·refine rs_new (w := w) (HBOX.out _ _ ⟨rv2, rs2, hm2⟩) hB (fun e => ?_) HN.out.2.1 HN.out.2.2
    rcases hm2.sub _ e with e | e
    ·have := hlt _ e; omega
    ·omega
  have hROOT : Hid (∀ (d' : DS) (W : World), RfIs wB B q K rv rs d' W → Calls Tryz.prog 73 #[.pointer (some ⟨w.heap.size, 0, none⟩)] W fun e w' => ∃ a c, e = .returned (.slice a 32 c) ∧ Hid (Fresh w' W.heap.size (.slice a 32 c) (rootB 1 0 0) ∧ Only (fun _ => False) W w')) := fun d' W hr => by
   have hb := HBOX.out _ _ hr
   exact rroot2_any w.heap.size 1 (.slice none 0 0) [] W (by rw [cell_of_row _ _ _ _ _ _ hb]; rfl) (by rw [cell_of_row _ _ _ _ _ _ hb]; rfl) (.inl ⟨rfl, rfl⟩) (by omega) (by simp) (by simp)
  have HB1 : Hid (∀ (d' : DS) (W : World), Good d' → d'.pend.length ≤ 100000000000 → RfIs wB B q K rv rs d' W → Calls Tryz.prog 72 #[.pointer (some ⟨q, 0, none⟩)] W fun e W2 => e = .returned (.int .i64 d'.barrier.1) ∧ Hid (RfIs wB B q K rv rs d'.barrier.2 W2)) := fun d' W hg' hp' ⟨rv', rs', hm⟩ => hm.barrier hg' (by omega)
  have HP2 : Hid (∀ (d' : DS) (W W2 : World) (a : Option Addr) (c : Nat), d'.pend.length ≤ 100000000000 → RfIs wB B q K rv rs d' W → Fresh W2 W.heap.size (.slice a 32 c) (rootB 1 0 0) → Only (fun _ => False) W W2 → Calls Tryz.prog 42 #[.pointer (some ⟨q, 0, none⟩), .int .i64 0, .slice a 32 c] W2 fun e W3 => e = .returned (.int .i64 (d'.write 0 (byF (rootB 1 0 0)) 32).1) ∧ Hid (RfIs wB B q K rv rs (d'.write 0 (byF (rootB 1 0 0)) 32).2 W3)) := fun d' W W2 a c hp' ⟨rv', rs', hm⟩ hf ho => by
   refine (hm.still ho).put (by omega) a 32 c 0 (byF (rootB 1 0 0)) ?_ (by omega) (by omega)
   have := hf.bytes.1
   rw [rootB_length] at this
   exact this
  have HG : Hid (Good x1.2 ∧ Good x2.2 ∧ Good x3.2 ∧ x1.2.pend.length ≤ 100000000000 ∧ x2.2.pend.length ≤ 100000000000 ∧ x3.2.pend.length ≤ 100000000000) := ⟨g1, g2, g3, by omega, by omega, by omega⟩
  have HX : Hid (x2 = x1.2.barrier ∧ x3 = x2.2.write 0 (byF (rootB 1 0 0)) 32 ∧ x4 = x3.2.barrier) := ⟨hx2, hx3, hx4⟩
  rw [hsB] at hmk HP1
  rw [hwZ, hwB] at HP1
  rw [hwB] at hmk
  have HWB : Hid (wB = _) := hwB
  clear h hg hx1 hx2 hx3 hx4 g1 g2 g3 hp1 hp2 hp3 hZ e0 rowZ M0 hrB hbox oB oZ hwZ z32 HK1 hlt hsB hwB
  go_enter Tryz.func43, Tryz.ntmps43
  go_wp2_with fail
  refine HC.mono ?_
  rintro e w1 ⟨rfl, rfl⟩
  clear HC
  go_wp2_with fail
  refine (show Calls Tryz.prog 42 _ _ _ from HP1.out).mono ?_
  rintro e w2 ⟨rfl, H2⟩
  rw [← HWB.out] at H2
  clear HP1 hmk
  by_cases c1 : x1.1 = 0
  ·rw [c1]
   have HC1 : Hid (x1.1 = 0) := c1
   have HB1' : Hid (Calls Tryz.prog 72 _ _ _) := HB1.out x1.2 w2 HG.out.1 HG.out.2.2.2.1 H2.out
   rw [← HX.out.1] at HB1'
   clear c1 H2
   go_wp2_with fail
   refine (show Calls Tryz.prog 72 _ _ _ from HB1'.out).mono ?_
   rintro e w3 ⟨rfl, H3⟩
   clear HB1'
   by_cases c2 : x2.1 = 0
   ·rw [c2]
    have HC2 : Hid (x2.1 = 0) := c2
    have HR : Hid (Calls Tryz.prog 73 _ _ _) := hROOT.out x2.2 w3 H3.out
    clear c2
    go_wp2_with fail
    refine (show Calls Tryz.prog 73 _ _ _ from HR.out).mono ?_
    rintro e w4 ⟨a4, c4, rfl, H4⟩
    have HP3 : Hid (Calls Tryz.prog 42 _ _ _) := HP2.out x2.2 w3 w4 a4 c4 HG.out.2.2.2.2.1 H3.out H4.out.1 H4.out.2
    rw [← HX.out.2.1] at HP3
    clear HR H3 H4
    go_wp2_with fail
    refine (show Calls Tryz.prog 42 _ _ _ from HP3.out).mono ?_
    rintro e w5 ⟨rfl, H5⟩
    clear HP3
    by_cases c3 : x3.1 = 0
    ·rw [c3]
     have HC3 : Hid (x3.1 = 0) := c3
     have HB2' : Hid (Calls Tryz.prog 72 _ _ _) := HB1.out x3.2 w5 HG.out.2.2.1 HG.out.2.2.2.2.2 H5.out
     rw [← HX.out.2.2] at HB2'
     clear c3 H5
     go_wp2_with fail
     refine (show Calls Tryz.prog 72 _ _ _ from HB2'.out).mono ?_
     rintro e w6 ⟨rfl, H6⟩
     have HFX : Hid (d.format = x4) := by show d.format = x4; rw [HFM.out, if_neg (by rw [HC1.out]; simp), if_neg (by rw [HC2.out]; simp), if_neg (by rw [HC3.out]; simp)]
     clear HB2'
     by_cases c4' : x4.1 = 0
     ·have HQ := HOKK.out x4 w6 HFX.out c4' H6.out
      have HQ' : Hid (RFmIs w1 B q K rv rs d (.returned (.tuple #[.pointer (some ⟨w1.heap.size, 0, none⟩), .int .i64 0])) w6) := HQ
      rw [c4']
      clear c4' HQ H6
      go_wp2
      go_ret2
      exact HQ'
     ·have HQ' : Hid (RFmIs w1 B q K rv rs d (.returned (.tuple #[.pointer none, .int .i64 3])) w6) := HDEAD.out x4 w6 HFX.out c4' H6.out
      generalize x4.1 = y at *
      have hy : (y != 0) = true := by simpa using c4'
      clear c4' H6
      go_wp2
      go_ret2
      exact HQ'
    ·have HQ' : Hid (RFmIs w1 B q K rv rs d (.returned (.tuple #[.pointer none, .int .i64 3])) w5) := HDEAD.out x3 w5 (by rw [HFM.out, if_neg (by rw [HC1.out]; simp), if_neg (by rw [HC2.out]; simp), if_pos c3]) c3 H5.out
     obtain ⟨y, hye⟩ : ∃ y, y = x3.1 := ⟨_, rfl⟩
     rw [← hye] at c3 ⊢
     have hy : (y != 0) = true := by simpa using c3
     clear c3 H5 hye
     go_wp2
     go_ret2
     exact HQ'
   ·have HQ' : Hid (RFmIs w1 B q K rv rs d (.returned (.tuple #[.pointer none, .int .i64 3])) w3) := HDEAD.out x2 w3 (by rw [HFM.out, if_neg (by rw [HC1.out]; simp), if_pos c2]) c2 H3.out
    obtain ⟨y, hye⟩ : ∃ y, y = x2.1 := ⟨_, rfl⟩
    rw [← hye] at c2 ⊢
    have hy : (y != 0) = true := by simpa using c2
    clear c2 H3 hye
    go_wp2
    go_ret2
    exact HQ'
  ·have HQ' : Hid (RFmIs w1 B q K rv rs d (.returned (.tuple #[.pointer none, .int .i64 3])) w2) := HDEAD.out x1 w2 (by rw [HFM.out, if_pos c1]) c1 H2.out
   obtain ⟨y, hye⟩ : ∃ y, y = x1.1 := ⟨_, rfl⟩
   rw [← hye] at c1 ⊢
   have hy : (y != 0) = true := by simpa using c1
   clear c1 H2 hye
   go_wp2
   go_ret2
   exact HQ'
def SrcAt (w : World) (v2 : Value) (news : List RPg) : Prop := (v2 = .slice none 0 0 ∧ news = []) ∨ ∃ a c, v2 = .slice (some a) news.length c ∧ ∀ j u, (rpgL news)[j]? = some u → w.cell? (a.add j) = some u
theorem SrcAt.frame {w w' : World} {v2 : Value} {news : List RPg} {bs : Nat → Prop} (h : SrcAt w v2 news) (ho : Only bs w w') (hn : ∀ b, v2.ownBlock = some b → ¬ bs b) : SrcAt w' v2 news := by
 rcases h with h | ⟨a, c, hv, hc⟩
 ·exact .inl h
 ·exact .inr ⟨a, c, hv, fun j u hu => ho.cell (hc j u hu) (hn _ (by rw [hv]; simp only [Value.ownBlock, Addr.add]; repeat' split <;> rfl))⟩
theorem nil_to (w : World) : (Instr.slice 95 (.slice none 0 0) none (some (.int .i64 0)) none).run Tryz.prog w = .ok (.slice none 0 0) w := by kernel_rfl
theorem nil_from (w : World) : (Instr.slice 95 (.slice none 0 0) (some (.int .i64 0)) none none).run Tryz.prog w = .ok (.slice none 0 0) w := by kernel_rfl
theorem PgsAt.to {w : World} {B : Nat} {av : Nat → Prop} {v : Value} {l : List RPg} (h : PgsAt w B av v l) (k : Nat) (hk : k ≤ l.length) :
  ∃ a2 c2, (∀ w', (Instr.slice 95 v none (some (.int .i64 (k : Nat))) none).run Tryz.prog w' = .ok (.slice a2 k c2) w') ∧ SrcAt w (.slice a2 k c2) (l.take k) ∧ ∀ b, (Value.slice a2 k c2).ownBlock = some b → v.ownBlock = some b := by
 have hlt : (l.take k).length = k := by simp [Nat.min_eq_left hk]
 rcases h.own.2 with ⟨rfl, h0⟩ | ⟨g, cap, cur, rfl, hB, hg, hcap, _, _, ht⟩
 ·obtain rfl : k = 0 := by omega
  exact ⟨none, 0, fun w' => nil_to w', .inl ⟨rfl, by simp⟩, fun b e => by cases e⟩
 ·have k0 : (0 : Int) ≤ (k : Int) := by omega
  have k1 : (k : Int) ≤ (cap : Int) := by omega
  have e1 : ((k : Int)).toNat = k := by omega
  refine ⟨some ⟨g, 0, none⟩, cap, fun w' => by go_simp, .inr ⟨_, cap, by rw [hlt], fun j u hu => ?_⟩, fun b e => e⟩
  have hj := (List.getElem?_eq_some_iff.1 hu).1
  rw [rpgL_length, hlt] at hj
  rw [Addr.add_mid, Nat.zero_add, h.own.cellAt j (by omega), ← hu]
  rw [show rpgL l = rpgL (l.take k) ++ rpgL (l.drop k) by rw [← rpgL_append, List.take_append_drop]]
  rw [List.getElem?_append_left (by rw [rpgL_length, hlt]; exact hj)]
theorem PgsAt.from {w : World} {B : Nat} {av : Nat → Prop} {v : Value} {l : List RPg} (h : PgsAt w B av v l) (k : Nat) (hk : k ≤ l.length) :
  ∃ a2 c2, (∀ w', (Instr.slice 95 v (some (.int .i64 (k : Nat))) none none).run Tryz.prog w' = .ok (.slice a2 (l.length - k) c2) w') ∧ SrcAt w (.slice a2 (l.length - k) c2) (l.drop k) ∧ ∀ b, (Value.slice a2 (l.length - k) c2).ownBlock = some b → v.ownBlock = some b := by
 have hlt : (l.drop k).length = l.length - k := by simp
 rcases h.own.2 with ⟨rfl, h0⟩ | ⟨g, cap, cur, rfl, hB, hg, hcap, _, _, ht⟩
 ·obtain rfl : k = 0 := by omega
  rw [h0]
  exact ⟨none, 0, fun w' => nil_from w', .inl ⟨rfl, List.eq_nil_of_length_eq_zero (by rw [hlt]; omega)⟩, fun b e => by cases e⟩
 ·have k0 : (0 : Int) ≤ (k : Int) := by omega
  have k1 : (k : Int) ≤ (l.length : Int) := by omega
  have kc : (l.length : Int) ≤ (cap : Int) := by omega
  have k2 : (k : Int) ≤ (cap : Int) := by omega
  have e0 : ((k : Int)).toNat = k := by omega
  have e1 : ((l.length : Int) - (k : Int)).toNat = l.length - k := by omega
  have e2 : ((cap : Int) - (k : Int)).toNat = cap - k := by omega
  obtain ⟨n, hn⟩ : ∃ n, n = l.length := ⟨_, rfl⟩
  by_cases e : cap = k
  ·have ek : l.length = k := by omega
   rw [ek] at k1 kc e1 ⊢
   subst e
   refine ⟨some ⟨g, 0, none⟩, 0, fun w' => by go_simp, .inr ⟨_, 0, by rw [hlt, ek], fun j u hu => ?_⟩, fun b e => e⟩
   have hj := (List.getElem?_eq_some_iff.1 hu).1
   rw [rpgL_length, hlt] at hj
   omega
  ·have ec : ¬ cap - k = 0 := by omega
   refine ⟨some ⟨g, k * 3, none⟩, cap - k, fun w' => ?_, .inr ⟨_, cap - k, by rw [hlt], fun j u hu => ?_⟩, fun b e => e⟩
   ·rw [← hn] at k1 kc e1 ⊢
    go_simp
   ·have hj := (List.getElem?_eq_some_iff.1 hu).1
    rw [rpgL_length, hlt] at hj
    rw [Addr.add_mid, h.own.cellAt (k * 3 + j) (by omega), ← hu]
    rw [show rpgL l = rpgL (l.take k) ++ rpgL (l.drop k) by rw [← rpgL_append, List.take_append_drop]]
    rw [List.getElem?_append_right (by rw [rpgL_length]; simp [Nat.min_eq_left hk])]
    congr 1
    rw [rpgL_length]; simp [Nat.min_eq_left hk]
section
variable {w : World} {rk : Nat → Prop} {B r q : Nat} {tv kv nv : Value} {x : SS} {lk ln : List RPg}
theorem RsAt.datOut (h : RsAt w rk B r q tv kv nv x lk ln) : ∀ y ∈ ln, BytesAt w y.v y.b ∧ ∀ b, y.v.ownBlock = some b → b < w.heap.size ∧ ¬ (b = r ∨ rk b) := fun y hy =>
 ⟨(h.now.dat y hy).1, fun b e => ⟨((h.now.dat y hy).2 b e).1, fun e' => ((h.now.dat y hy).2 b e).2 (by
   rcases e' with e' | e'
   ·exact .inl e'
   ·exact .inr (.inr e'))⟩⟩
def rdE (x : SS) (i : Int) : Int := if badE i ≠ 0 then 4 else if isAt x.now i then 0 else 6
theorem rdrop_any (h : RsAt w rk B r q tv kv nv x lk ln) (hrk : ∀ k, rk k → k < w.heap.size) (hB : B ≤ w.heap.size) (i : Int) :
  Calls Tryz.prog 19 #[.pointer (some ⟨r, 0, none⟩), .int .i64 i] w fun e w' => e = .returned (.int .i64 (rdE x i)) ∧ Hid (RsIs w rk B r q nv (if rdE x i = 0 then { x with now := delL x.now i } else x) w') := by
 have HB := rbad_any r i w h.c6
 have HF : Hid (Calls Tryz.prog 53 _ _ _) := find_any h i
 have c5 := h.c5
 have HH : Hid (RsAt w rk B r q tv kv nv x lk ln) := h
 have HW : Hid (rdE x i = if badE i ≠ 0 then 4 else if isAt x.now i then 0 else 6) := rfl
 have HS0 : Hid (∀ w', Only (fun _ => False) w w' → RsIs w rk B r q nv x w') := fun w' ho => ⟨_, _, _, _, _, HH.out.still ho, ho.mono (fun _ _ e => e.elim), fun b e => .inl e⟩
 by_cases hb : badE i = 0
 ·rw [hb] at HB
  rw [if_neg (by simpa using hb)] at HW
  cases hi : isAt x.now i
  ·rw [hi] at HF HW
   have e6 : rdE x i = 6 := HW.out
   rw [e6, if_neg (by decide)]
   clear h HW hi hb e6
   go_enter Tryz.func19, Tryz.ntmps19
   go_wp2_with fail
   refine HB.mono ?_
   rintro e w1 ⟨rfl, rfl⟩
   go_wp2_with fail
   refine (show Calls Tryz.prog 53 _ _ _ from HF.out).mono ?_
   rintro e w2 ⟨rfl, ho⟩
   have HO : Hid (Only (fun _ => False) w1 w2) := ho
   clear ho HF HB
   go_wp2
   go_ret
   exact ⟨rfl, HS0.out _ HO.out⟩
  ·rw [hi] at HF HW
   have e6 : rdE x i = 0 := HW.out
   rw [e6, if_pos rfl]
   obtain ⟨k, hk⟩ : ∃ k, k = fi x.now i := ⟨_, rfl⟩
   have hkx : k < x.now.length := by
    unfold isAt at hi
    rw [← hk] at hi
    rcases Nat.lt_or_ge k x.now.length with h1 | h1
    ·exact h1
    ·rw [List.getElem?_eq_none h1] at hi; cases hi
   have hkl : k < ln.length := by have := h.nowLen; omega
   rw [← hk] at HF
   have HD : Hid (delL x.now i = x.now.take k ++ x.now.drop (k + 1)) := by have := del_at h.nowR hi; rw [← hk] at this; exact this
   have hnS := h.nowS
   obtain ⟨a, c, hnv, hcc⟩ := h.now.form
   obtain ⟨n, hn⟩ : ∃ n, n = ln.length := ⟨_, rfl⟩
   obtain ⟨a1, c1, s1, src1, ob1⟩ := h.now.to k (Nat.le_of_lt hkl)
   obtain ⟨a2, c2, s2, src2, ob2⟩ := h.now.from (k + 1) hkl
   have HP : Hid (∀ w2, Only (fun _ => False) w w2 → ∃ a3 c3 w3 a4 c4 w4, (∀ ty, (Builtin.append_ #[95, 95] ty #[.slice none 0 0, .slice a1 k c1]).run Tryz.prog w2 = .ok (.slice a3 k c3) w3) ∧ (∀ ty, (Builtin.append_ #[95, 95] ty #[.slice a3 k c3, .slice a2 (n - (k + 1)) c2]).run Tryz.prog w3 = .ok (.slice a4 (n - 1) c4) w4) ∧
     w3.cell? ⟨r, 5, none⟩ = some nv ∧ w4.cell? ⟨r, 5, none⟩ = some nv ∧ w4.frozen? ⟨r, 5, none⟩ = false ∧ RsIs w rk B r q nv { x with now := delL x.now i } (w4.setCell ⟨r, 5, none⟩ (.slice a4 (n - 1) c4))) := fun w2 ho => by
    have hd0 := h.datOut
    have hC : ∀ k, (k = r ∨ rk k) → k < w.heap.size := fun k e => e.elim (fun e => by rw [e]; exact h.lt) (hrk k)
    have hs2 := ho.size
    have nblk : ∀ b, nv.ownBlock = some b → b < w.heap.size := fun b e => (h.now.lt b e).2
    obtain ⟨a3, c3, w3, hr3, hp3, ho3, hb3⟩ := (PgsAt.nil w2 B (fun k => (k = r ∨ rk k) ∨ (Value.slice none 0 0).ownBlock = some k)).app (C := fun k => k = r ∨ rk k) (fun k e => by have := hC k e; omega) (by omega) (.slice a1 k c1) (ln.take k)
     (src1.frame ho (fun _ _ e => e)) (fun y hy => ⟨(hd0 y (List.mem_of_mem_take hy)).1.frame ho, fun b e => ⟨by have := ((hd0 y (List.mem_of_mem_take hy)).2 b e).1; omega, fun e' => by
      rcases e' with e' | e'
      ·exact ((hd0 y (List.mem_of_mem_take hy)).2 b e).2 e'
      ·cases e'⟩⟩) (by simp; omega)
    have tl : (ln.take k).length = k := by simp; omega
    simp only [List.length_nil, Nat.zero_add, tl, List.nil_append] at hr3 hp3 hb3
    have o3 : Only (fun _ => False) w2 w3 := ho3.mono (fun b _ e => by cases e)
    have o3' : Only (fun _ => False) w w3 := ho.trans o3 (fun _ _ e => e)
    have v3 : ∀ b, (Value.slice a3 k c3).ownBlock = some b → w2.heap.size ≤ b := fun b e => by
     rcases hb3 b e with e' | e'
     ·cases e'
     ·exact e'
    have hs3 := o3'.size
    obtain ⟨a4, c4, w4, hr4, hp4, ho4, hb4⟩ := hp3.app (C := fun k => k = r ∨ rk k) (fun k e => by have := hC k e; omega) (by omega) (.slice a2 (ln.length - (k + 1)) c2) (ln.drop (k + 1))
     (src2.frame o3' (fun _ _ e => e)) (fun y hy => ⟨(hd0 y (List.mem_of_mem_drop hy)).1.frame o3', fun b e => ⟨by have := ((hd0 y (List.mem_of_mem_drop hy)).2 b e).1; omega, fun e' => by
      rcases e' with e' | e'
      ·exact ((hd0 y (List.mem_of_mem_drop hy)).2 b e).2 e'
      ·have := v3 b e'; have := ((hd0 y (List.mem_of_mem_drop hy)).2 b e).1; omega⟩⟩) (by simp; omega)
    have dl : (ln.drop (k + 1)).length = ln.length - (k + 1) := by simp
    simp only [tl, dl] at hr4 hp4 hb4
    have en : k + (ln.length - (k + 1)) = n - 1 := by omega
    rw [en] at hp4 hb4
    have hr4' : ∀ ty, (Builtin.append_ #[95, 95] ty #[.slice a3 k c3, .slice a2 (n - (k + 1)) c2]).run Tryz.prog w3 = .ok (.slice a4 (n - 1) c4) w4 := by
     intro ty; have := hr4 ty; rw [en] at this; rw [hn]; rw [hn] at this; exact this
    have o4 : Only (fun _ => False) w w4 := o3'.trans ho4 (fun b hb e => by have := v3 b e; omega)
    have nb4 : ∀ b, (Value.slice a4 (n - 1) c4).ownBlock = some b → w.heap.size ≤ b := fun b e => by
     rcases hb4 b e with e' | e'
     ·have := v3 b e'; omega
     ·omega
    have hsn : (ln.take k ++ ln.drop (k + 1)).map RPg.p = delL x.now i := by rw [HD.out, List.map_append, List.map_take, List.map_drop, h.nowE]
    have hsub : ∀ p ∈ delL x.now i, p ∈ x.now := fun p hp => (List.mem_filter.1 hp).1
    obtain ⟨q1, q2⟩ := h.setNow hrk (o4.mono (fun _ _ e => e.elim)) (.slice a4 (n - 1) c4) _ (delL x.now i) hp4 (fun b e => .inr (nb4 b e)) hsn (h.nowR.filter _) (fun p hp => h.wf.now p (hsub p hp))
    exact ⟨a3, c3, w3, a4, c4, w4, hr3, hr4', o3'.cell c5 (fun e => e), o4.cell c5 (fun e => e), (o4.frozen h.lt (fun e => e)).trans (h.fz 5 (by omega)), _, _, _, _, _, q1, q2, fun b e => .inr (nb4 b e)⟩
   rw [← hn] at hnv s2
   have HS1 : Hid (∀ w', (Instr.slice 95 nv none (some (.int .i64 (k : Nat))) none).run Tryz.prog w' = .ok (.slice a1 k c1) w') := s1
   have HS2 : Hid (∀ w', (Instr.slice 95 nv (some (.int .i64 ((k + 1 : Nat) : Int))) none none).run Tryz.prog w' = .ok (.slice a2 (n - (k + 1)) c2) w') := s2
   subst hnv
   have s1' := HS1.out
   have s2' : ∀ w', (Instr.slice 95 (.slice a n c) (some (.int .i64 ((k : Int) + 1))) none none).run Tryz.prog w' = .ok (.slice a2 (n - (k + 1)) c2) w' := by have := HS2.out; simpa using this
   have hk7 : k < 1000 := by omega
   clear h HW hi hb e6 hk hkx hkl hnS hcc hn s1 s2 src1 src2 ob1 ob2 HD hrk hB HS0
   go_enter Tryz.func19, Tryz.ntmps19
   go_wp2_with fail
   refine HB.mono ?_
   rintro e w1 ⟨rfl, rfl⟩
   go_wp2_with fail
   refine (show Calls Tryz.prog 53 _ _ _ from HF.out).mono ?_
   rintro e w2 ⟨rfl, ho⟩
   obtain ⟨a3, c3, w3, a4, c4, w4, hr3, hr4, z3, z4, zf, hz⟩ := HP.out w2 ho
   have HR3 : Hid _ := hr3
   have HR4 : Hid _ := hr4
   have HZ : Hid (RsIs w1 rk B r q (.slice a n c) { x with now := delL x.now i } (w4.setCell ⟨r, 5, none⟩ (.slice a4 (n - 1) c4))) := hz
   have z2 := ho.cell c5 (fun e => e)
   clear ho HF HB HP hr3 hr4 hz
   go_wp2_with (first | (at_builtin; refine wpList_append_run rfl _ _ 95 rfl _ _ (.slice a3 k c3) rfl rfl HR3.out ?_) | (at_builtin; refine wpList_append_run rfl _ _ 95 rfl _ _ (.slice a4 (n - 1) c4) rfl rfl HR4.out ?_))
   go_ret
   exact ⟨rfl, HZ⟩
 ·have hbe : badE i = 4 := by unfold badE at *; split at hb <;> simp_all
  rw [hbe] at HB
  have e6 : rdE x i = 4 := by rw [HW.out, if_pos (by omega)]
  rw [e6, if_neg (by decide)]
  clear HF HW hb e6 hbe h
  go_enter Tryz.func19, Tryz.ntmps19
  go_wp2_with fail
  refine HB.mono ?_
  rintro e w1 ⟨rfl, rfl⟩
  go_wp2
  go_ret
  exact ⟨rfl, HS0.out _ (Only.refl _ _)⟩
theorem rdrop_dead (r : Nat) (i : Int) (w : World) (h : w.cell? ⟨r, 6, none⟩ = some (.bool true)) :
  Calls Tryz.prog 19 #[.pointer (some ⟨r, 0, none⟩), .int .i64 i] w fun e w' => e = .returned (.int .i64 3) ∧ w' = w := by
 have HB := rbad_dead r i w h
 go_enter Tryz.func19, Tryz.ntmps19
 go_wp2_with fail
 refine HB.mono ?_
 rintro e w1 ⟨rfl, rfl⟩
 go_wp2
 go_ret
 exact ⟨rfl, rfl⟩
end
section
variable {w : World} {rk : Nat → Prop} {B r q : Nat} {tv kv nv : Value} {x : SS} {lk ln : List RPg}
def rpE (i : Int) (m : Nat) : Int := if badE i ≠ 0 then 4 else if 116 < m then 11 else 0
theorem rput4_dead (r : Nat) (i : Int) (v : Value) (w : World) (h : w.cell? ⟨r, 6, none⟩ = some (.bool true)) :
  Calls Tryz.prog 26 #[.pointer (some ⟨r, 0, none⟩), .int .i64 i, v] w fun e w' => e = .returned (.int .i64 3) ∧ w' = w := by
 have HB := rbad_dead r i w h
 go_enter Tryz.func26, Tryz.ntmps26
 go_wp2_with fail
 refine HB.mono ?_
 rintro e w1 ⟨rfl, rfl⟩
 go_wp2
 go_ret
 exact ⟨rfl, rfl⟩
theorem rput4_bad (h : RsAt w rk B r q tv kv nv x lk ln) (i : Int) (a : Option Addr) (m c : Nat) (he : rpE i m ≠ 0) :
  Calls Tryz.prog 26 #[.pointer (some ⟨r, 0, none⟩), .int .i64 i, .slice a m c] w fun e w' => e = .returned (.int .i64 (rpE i m)) ∧ w' = w := by
 have HB := rbad_any r i w h.c6
 by_cases hb : badE i = 0
 ·have hm : 116 < m := by
   unfold rpE at he
   rw [if_neg (by simpa using hb)] at he
   by_cases h1 : 116 < m
   ·exact h1
   ·rw [if_neg h1] at he; exact absurd rfl he
  rw [show rpE i m = 11 by unfold rpE; rw [if_neg (by simpa using hb), if_pos hm]]
  rw [hb] at HB
  have hm2 : (116 : Int) < (m : Int) := by omega
  clear he hb h
  go_enter Tryz.func26, Tryz.ntmps26
  go_wp2_with fail
  refine HB.mono ?_
  rintro e w1 ⟨rfl, rfl⟩
  go_wp2
  go_ret
  exact ⟨rfl, rfl⟩
 ·have hbe : badE i = 4 := by unfold badE at *; split at hb <;> simp_all
  rw [show rpE i m = 4 by unfold rpE; rw [if_pos hb]]
  rw [hbe] at HB
  clear he hb hbe h
  go_enter Tryz.func26, Tryz.ntmps26
  go_wp2_with fail
  refine HB.mono ?_
  rintro e w1 ⟨rfl, rfl⟩
  go_wp2
  go_ret
  exact ⟨rfl, rfl⟩
theorem put_chain {w3 : World} (h : RsAt w rk B r q tv kv nv x lk ln) (hrk : ∀ k, rk k → k < w.heap.size) (hB : B ≤ w.heap.size) (i : Int) (hi0 : 0 ≤ i ∧ i < 728) (zs : List Nat) (hz : zs.length ≤ 116) (hi : isAt x.now i = false)
  (o3 : Only (fun _ => False) w w3) (a1 : Option Addr) (c1 m k n : Nat) (hm : m = zs.length) (hk : k = fi x.now i) (hn : n = ln.length) (fr : Fresh w3 w.heap.size (.slice a1 m c1) zs) :
  ∃ a5 c5 a6 c6 w6 a7 c7 w7 a9 c9 a8 c8 w8, (∀ w', (Instr.slice 95 nv none (some (.int .i64 (k : Nat))) none).run Tryz.prog w' = .ok (.slice a5 k c5) w') ∧
    (∀ w', (Instr.slice 95 nv (some (.int .i64 (k : Nat))) none none).run Tryz.prog w' = .ok (.slice a9 (n - k) c9) w') ∧
    (∀ ty, (Builtin.append_ #[95, 95] ty #[.slice none 0 0, .slice a5 k c5]).run Tryz.prog (w3.alloc (.cells #[.int .i64 i, .int .i64 0, .slice a1 m c1] 103)) = .ok (.slice a6 k c6) w6) ∧
    (∀ ty, (Builtin.append_ #[95, 95] ty #[.slice a6 k c6, .slice (some ⟨w6.heap.size, 0, none⟩) 1 1]).run Tryz.prog (w6.alloc (.cells #[.int .i64 i, .int .i64 0, .slice a1 m c1] 103)) = .ok (.slice a7 (k + 1) c7) w7) ∧
    (∀ ty, (Builtin.append_ #[95, 95] ty #[.slice a7 (k + 1) c7, .slice a9 (n - k) c9]).run Tryz.prog w7 = .ok (.slice a8 (n + 1) c8) w8) ∧
    Only (fun _ => False) (w3.alloc (.cells #[.int .i64 i, .int .i64 0, .slice a1 m c1] 103)) w6 ∧ Only (fun _ => False) w w6 ∧ Only (fun _ => False) w w7 ∧ Only (fun _ => False) w w8 ∧
    RsIs w rk B r q nv { x with now := putL x.now i (0, zs) } (w8.setCell ⟨r, 5, none⟩ (.slice a8 (n + 1) c8)) := by
 have hkl : k ≤ ln.length := by rw [hk, h.nowLen]; exact fi_le _ _
 have hnS := h.nowS
 have hd0 := h.datOut
 have hC : ∀ k, (k = r ∨ rk k) → k < w.heap.size := fun k e => e.elim (fun e => by rw [e]; exact h.lt) (hrk k)
 obtain ⟨a5, c5, s5, src5, ob5⟩ := h.now.to k hkl
 obtain ⟨a9, c9, s9, src9, ob9⟩ := h.now.from k hkl
 rw [← hn] at s9 src9
 obtain ⟨w4, hw4⟩ : ∃ q, q = w3.alloc (.cells #[.int .i64 i, .int .i64 0, .slice a1 m c1] 103) := ⟨_, rfl⟩
 have o34 : Only (fun _ => False) w3 w4 := by rw [hw4]; exact (Only.refl _ w3).alloc _
 have o4 := o3.trans o34 (fun _ _ e => e)
 have hs4 := o4.size
 have hs3 := o3.size
 obtain ⟨a6, c6, w6, hr6, hp6, ho6, hb6⟩ := (PgsAt.nil w4 B (fun k => (k = r ∨ rk k) ∨ (Value.slice none 0 0).ownBlock = some k)).app (C := fun k => k = r ∨ rk k) (fun k e => by have := hC k e; omega) (by omega) (.slice a5 k c5) (ln.take k)
  (src5.frame o4 (fun _ _ e => e)) (fun y hy => ⟨(hd0 y (List.mem_of_mem_take hy)).1.frame o4, fun b e => ⟨by have := ((hd0 y (List.mem_of_mem_take hy)).2 b e).1; omega, fun e' => by
   rcases e' with e' | e'
   ·exact ((hd0 y (List.mem_of_mem_take hy)).2 b e).2 e'
   ·cases e'⟩⟩) (by simp; omega)
 have tl : (ln.take k).length = k := by simp; omega
 simp only [List.length_nil, Nat.zero_add, tl, List.nil_append] at hr6 hp6 hb6
 have o46 : Only (fun _ => False) w4 w6 := ho6.mono (fun b _ e => by cases e)
 have o6 : Only (fun _ => False) w w6 := o4.trans o46 (fun _ _ e => e)
 have hs6 := o46.size
 have v6 : ∀ b, (Value.slice a6 k c6).ownBlock = some b → w4.heap.size ≤ b := fun b e => by
  rcases hb6 b e with e' | e'
  ·cases e'
  ·exact e'
 obtain ⟨wL, hwL⟩ : ∃ q, q = w6.alloc (.cells #[.int .i64 i, .int .i64 0, .slice a1 m c1] 103) := ⟨_, rfl⟩
 have o6L : Only (fun _ => False) w6 wL := by rw [hwL]; exact (Only.refl _ w6).alloc _
 have oL := o6.trans o6L (fun _ _ e => e)
 have hsL := o6L.size
 have h34 := o34.size
 have frL : Fresh wL w.heap.size (.slice a1 m c1) zs := fr.frame ((o34.trans o46 (fun _ _ e => e)).trans o6L (fun _ _ e => e))
 have frb : ∀ b, (Value.slice a1 m c1).ownBlock = some b → w.heap.size ≤ b ∧ b < w3.heap.size := fun b e => fr.1.lt b e
 have hp6L : PgsAt wL B (fun j => (j = r ∨ rk j) ∨ (Value.slice a6 k c6).ownBlock = some j) (.slice a6 k c6) (ln.take k) := hp6.frame o6L (fun _ _ e => e) (fun _ _ e => e.elim) (fun _ _ e => e)
 obtain ⟨a7, c7, w7, hr7, hp7, ho7, hb7⟩ := hp6L.app (C := fun k => k = r ∨ rk k) (fun k e => by have := hC k e; omega) (by omega) (.slice (some ⟨w6.heap.size, 0, none⟩) 1 1) [⟨i, 0, zs, .slice a1 m c1⟩]
  (.inr ⟨_, 1, rfl, by rw [hwL]; exact World.news_of_block (heap_alloc_new w6 _)⟩) (fun y hy => by
   obtain rfl : y = ⟨i, 0, zs, .slice a1 m c1⟩ := by simpa using hy
   refine ⟨frL.bytes, fun b e => ?_⟩
   have := frb b e
   refine ⟨by omega, fun e' => ?_⟩
   rcases e' with e' | e'
   ·have := hC b e'; omega
   ·have := v6 b e'; omega) (by simp only [tl, List.length_cons, List.length_nil]; omega)
 simp only [tl, List.length_cons, List.length_nil, Nat.zero_add] at hr7 hp7 hb7
 have v7 : ∀ b, (Value.slice a7 (k + 1) c7).ownBlock = some b → w4.heap.size ≤ b := fun b e => by
  rcases hb7 b e with e' | e'
  ·exact v6 b e'
  ·omega
 have o7 : Only (fun _ => False) w w7 := oL.trans ho7 (fun b hb e => by have := v6 b e; omega)
 have hs7 := ho7.size
 obtain ⟨a8, c8, w8, hr8, hp8, ho8, hb8⟩ := hp7.app (C := fun k => k = r ∨ rk k) (fun k e => by have := hC k e; omega) (by omega) (.slice a9 (n - k) c9) (ln.drop k)
  (src9.frame o7 (fun _ _ e => e)) (fun y hy => ⟨(hd0 y (List.mem_of_mem_drop hy)).1.frame o7, fun b e => ⟨by have := ((hd0 y (List.mem_of_mem_drop hy)).2 b e).1; omega, fun e' => by
   rcases e' with e' | e'
   ·exact ((hd0 y (List.mem_of_mem_drop hy)).2 b e).2 e'
   ·have := v7 b e'; have := ((hd0 y (List.mem_of_mem_drop hy)).2 b e).1; omega⟩⟩) (by simp; omega)
 have tl2 : (ln.take k ++ ([⟨i, 0, zs, .slice a1 m c1⟩] : List RPg)).length = k + 1 := by simp; omega
 have dl : (ln.drop k).length = n - k := by simp; omega
 have en : k + 1 + (n - k) = n + 1 := by omega
 simp only [tl2, dl, en] at hr8 hp8 hb8
 have o8 : Only (fun _ => False) w w8 := o7.trans ho8 (fun b hb e => by have := v7 b e; omega)
 have v8 : ∀ b, (Value.slice a8 (n + 1) c8).ownBlock = some b → w.heap.size ≤ b := fun b e => by
  rcases hb8 b e with e' | e'
  ·have := v7 b e'; omega
  ·omega
 have hsn : (ln.take k ++ ([⟨i, 0, zs, .slice a1 m c1⟩] : List RPg) ++ ln.drop k).map RPg.p = putL x.now i (0, zs) := by
  rw [put_not h.nowR hi, ← hk, List.map_append, List.map_append, List.map_take, List.map_drop, h.nowE]
  rfl
 have hsub : ∀ p ∈ putL x.now i (0, zs), p ∈ x.now ∨ p = (i, 0, zs) := fun p hp => by
  rw [put_not h.nowR hi] at hp
  simp only [List.mem_append, List.mem_singleton] at hp
  rcases hp with (hp | hp) | hp
  ·exact .inl (List.mem_of_mem_take hp)
  ·exact .inr hp
  ·exact .inl (List.mem_of_mem_drop hp)
 obtain ⟨q1, q2⟩ := h.setNow hrk (o8.mono (fun _ _ e => e.elim)) (.slice a8 (n + 1) c8) _ (putL x.now i (0, zs)) hp8 (fun b e => .inr (v8 b e)) hsn (h.nowR.put i _) (fun p hp => by
  rcases hsub p hp with hp | rfl
  ·exact h.wf.now p hp
  ·exact ⟨hi0, .inl rfl, hz⟩)
 rw [hw4] at hr6 o46
 rw [hwL] at hr7
 exact ⟨a5, c5, a6, c6, w6, a7, c7, w7, a9, c9, a8, c8, w8, s5, s9, hr6, hr7, hr8, o46, o6, o7, o8, _, _, _, _, _, q1, q2, fun b e => .inr (v8 b e)⟩
theorem rput4_not (h : RsAt w rk B r q tv kv nv x lk ln) (hrk : ∀ k, rk k → k < w.heap.size) (hB : B ≤ w.heap.size) (i : Int) (hi0 : 0 ≤ i ∧ i < 728) (v : Value) (zs : List Nat) (hv : BytesAt w v zs) (hz : zs.length ≤ 116) (hi : isAt x.now i = false) :
  Calls Tryz.prog 26 #[.pointer (some ⟨r, 0, none⟩), .int .i64 i, v] w fun e w' => e = .returned (.int .i64 0) ∧ Hid (RsIs w rk B r q nv { x with now := putL x.now i (0, zs) } w') := by
 have HB := rbad_any r i w h.c6
 rw [show badE i = 0 from if_pos hi0] at HB
 have HF : Hid (Calls Tryz.prog 53 _ _ _) := find_any h i
 rw [hi] at HF
 obtain ⟨av, cv, hvf, hvr⟩ := hv.form
 have HV : Hid (BytesAt w v zs) := hv
 obtain ⟨m, hm⟩ : ∃ m, m = zs.length := ⟨_, rfl⟩
 have HM : Hid (m = zs.length) := hm
 have HZ : Hid (zs.length ≤ 116) := hz
 rw [← hm] at hvf hz
 subst hvf
 have hm2 : ¬ (116 : Int) < (m : Int) := by omega
 have hem := empty23
 have c5 := h.c5
 obtain ⟨k, hk⟩ : ∃ k, k = fi x.now i := ⟨_, rfl⟩
 obtain ⟨n, hn⟩ : ∃ n, n = ln.length := ⟨_, rfl⟩
 obtain ⟨an, cn, hnv, hcn⟩ := h.now.form
 rw [← hk] at HF
 rw [← hn] at hnv
 have hlt := h.lt
 have f5 := h.fz 5 (by omega)
 have HCH : Hid (∀ (w3 : World) (a1 : Option Addr) (c1 : Nat), Only (fun _ => False) w w3 → Fresh w3 w.heap.size (.slice a1 m c1) zs → _) := fun w3 a1 c1 o3 fr => put_chain h hrk hB i hi0 zs HZ.out hi o3 a1 c1 m k n HM.out hk hn fr
 clear hvr hm hv h hrk hk hn hcn
 subst hnv
 go_enter Tryz.func26, Tryz.ntmps26
 go_wp2_with fail
 refine HB.mono ?_
 rintro e w1 ⟨rfl, rfl⟩
 go_wp2_with fail
 refine (show Calls Tryz.prog 53 _ _ _ from HF.out).mono ?_
 rintro e w2 ⟨rfl, ho⟩
 obtain ⟨i0, hi0', hz0, hz1, hz2⟩ := info_parts info5
 obtain ⟨a1, c1, w3, hr1, own1, o3⟩ := app_copy 37 5 i0 _ 1 Tryz.underlying37 hi0' hz0 hz1 hz2 rfl rfl w2 (.slice av m cv) m _ (by have := (HV.out.frame ho).1; rw [← HM.out] at this; exact this) (fun j => rfl) (by omega)
 have o13 := ho.trans o3 (fun _ _ e => e)
 have fr1 : Fresh w3 w1.heap.size (.slice a1 m c1) zs := by
  have e1 : w3.ownsRow w2.heap.size 5 1 (.slice a1 m c1) zs.length (BL zs) := by rw [BL_getD, ← HM.out]; exact own1
  refine ⟨⟨e1.1, ?_⟩, HV.out.2⟩
  rcases e1.2 with e | ⟨g, cap, cur, hv, hb, rest⟩
  ·exact .inl e
  ·exact .inr ⟨g, cap, cur, hv, by have := ho.size; omega, rest⟩
 obtain ⟨a5, c5', a6, c6, w6, a7, c7, w7, a9, c9, a8, c8, w8, s5, s9, hr6, hr7, hr8, o46, o6, o7, o8, hz⟩ := HCH.out w3 a1 c1 o13 fr1
 have HR1 : Hid _ := hr1
 have HR6 : Hid _ := hr6
 have HR7 : Hid _ := hr7
 have HR8 : Hid _ := hr8
 have HFIN : Hid (RsIs w1 rk B r q (.slice an n cn) { x with now := putL x.now i (0, zs) } (w8.setCell ⟨r, 5, none⟩ (.slice a8 (n + 1) c8))) := hz
 obtain ⟨w4, hw4⟩ : ∃ q, q = w3.alloc (.cells #[.int .i64 i, .int .i64 0, .slice a1 m c1] 103) := ⟨_, rfl⟩
 have z3 := o13.cell c5 (fun e => e)
 have z4 : (w3.alloc (.cells #[.int .i64 i, .int .i64 0, .slice a1 m c1] 103)).cell? ⟨r, 5, none⟩ = some (.slice an n cn) := (o13.alloc _).cell c5 (fun e => e)
 have z6 := o6.cell c5 (fun e => e)
 have z7 := o7.cell c5 (fun e => e)
 have z8 := o8.cell c5 (fun e => e)
 have zf : w8.frozen? ⟨r, 5, none⟩ = false := (o8.frozen hlt (fun e => e)).trans f5
 have hpb : (w3.alloc (.cells #[.int .i64 i, .int .i64 0, .slice a1 m c1] 103)).heap[w3.heap.size]? = some (.cells #[.int .i64 i, .int .i64 0, .slice a1 m c1] 103 (0, 0)) := heap_alloc_new w3 _
 have hpb6 : w6.heap[w3.heap.size]? = some (.cells #[.int .i64 i, .int .i64 0, .slice a1 m c1] 103 (0, 0)) := by rw [o46.block _ (by simp) (fun e => e)]; exact hpb
 have p0 : w6.cell? ⟨w3.heap.size, 0, none⟩ = some (.int .i64 i) := by rw [cell_of_row _ _ _ _ _ _ hpb6]; rfl
 have p1 : w6.cell? ⟨w3.heap.size, 1, none⟩ = some (.int .i64 0) := by rw [cell_of_row _ _ _ _ _ _ hpb6]; rfl
 have p2 : w6.cell? ⟨w3.heap.size, 2, none⟩ = some (.slice a1 m c1) := by rw [cell_of_row _ _ _ _ _ _ hpb6]; rfl
 clear hr1 hr6 hr7 hr8 hz own1 o3 o13 fr1 HCH HV HB HF o46 o6 o7 o8 hpb hpb6 ho hw4 hi0' hz0 hz1 hz2 c5
 go_wp2_with (first
  | (at_builtin; refine wpList_append_run rfl _ _ 37 rfl (.slice (some ⟨w2.heap.size, 0, none⟩) 0 0) (.slice av m cv) (.slice a1 m c1) rfl rfl HR1.out ?_)
  | (at_builtin; refine wpList_append_run rfl _ _ 95 rfl (.slice none 0 0) (.slice a5 k c5') (.slice a6 k c6) rfl rfl HR6.out ?_)
  | (at_builtin; refine wpList_append_run rfl _ _ 95 rfl (.slice a6 k c6) (.slice (some ⟨w6.heap.size, 0, none⟩) 1 1) (.slice a7 (k + 1) c7) rfl rfl HR7.out ?_)
  | (at_builtin; refine wpList_append_run rfl _ _ 95 rfl (.slice a7 (k + 1) c7) (.slice a9 (n - k) c9) (.slice a8 (n + 1) c8) rfl rfl HR8.out ?_))
 go_ret
 exact ⟨rfl, HFIN⟩
end
theorem own_set {w : World} {B e size n g c : Nat} {xs : List Value} (h : w.ownsRow B e size (.slice (some ⟨g, 0, none⟩) n c) n xs) (j : Nat) (hj : j < n * size) (u : Value) : (w.setCell ⟨g, j, none⟩ u).ownsRow B e size (.slice (some ⟨g, 0, none⟩) n c) n (xs.set j u) := by
 refine ⟨by rw [List.length_set]; exact h.1, ?_⟩
 rcases h.2 with ⟨hv, _⟩ | ⟨g', cap, cur, hv, hb, hg, hc, hcm, hcs, ht⟩
 ·cases hv
 ·simp only [Value.slice.injEq, Option.some.injEq, Addr.mk.injEq, and_true, true_and] at hv
  obtain ⟨rfl, rfl⟩ := hv
  refine .inr ⟨g, c, _, rfl, hb, heap_setCell_same w g j _ _ u hg, hc, hcm, ?_, ?_⟩
  ·simpa using hcs
  ·rw [← ht]
   apply List.ext_getElem?
   intro q
   simp only [List.getElem?_take, List.getElem?_set, Array.getElem?_toList, Array.getElem?_set, Array.getElem?_setIfInBounds, List.length_take, Array.length_toList]
   have hm : n * size ≤ c * size := Nat.mul_le_mul_right _ hc
   by_cases e : j = q
   ·subst e
    simp only [hj, if_true, hcs]
    rw [if_pos (by omega), if_pos (by omega)]
   ·simp [e]
theorem setCell_self (W : World) (a : Addr) (v : Value) (hc : W.cell? a = some v) (j : Nat) : (W.setCell a v).heap[j]? = W.heap[j]? := by
 by_cases hj : j = a.block
 ·subst hj
  have hs : a.spot = none := World.cell?_spot hc
  obtain ⟨b, o, sp⟩ := a
  simp only at hs
  subst hs
  simp only [World.cell?] at hc
  cases hb : W.heap[b]? with
  | none => rw [hb] at hc; cases hc
  | some ob =>
    cases ob with
    | cells cs t fr =>
      rw [hb] at hc
      simp only [World.setCell, Array.getElem?_modify, if_true, hb, Option.map_some, Option.isSome_none, Bool.false_eq_true, if_false]
      have hc2 : cs[o]? = some v := by simpa using hc
      congr 2
      apply Array.ext_getElem?
      intro q
      rw [Array.getElem?_setIfInBounds]
      split
      ·rename_i e
       subst e
       rw [hc2]
       have := (Array.getElem?_eq_some_iff.1 hc2).1
       simp [this]
      ·rfl
    | map es cl => simp [World.setCell, Array.getElem?_modify, hb]
    | _ => simp [World.setCell, Array.getElem?_modify, hb]
 ·exact heap_setCell_other W a j v hj
theorem rpgL_set : ∀ (l : List RPg) (k : Nat) (y : RPg), k < l.length → (((rpgL l).set (k * 3) (.int .i64 y.i)).set (k * 3 + 1) (.int .i64 (y.at_ : Nat))).set (k * 3 + 2) y.v = rpgL (l.set k y)
 | [], _, _, h => by simp at h
 | x :: r, 0, y, _ => by simp [rpgL, RPg.cells]
 | x :: r, k + 1, y, h => by
   have ih := rpgL_set r k y (by simpa using h)
   have e : rpgL (x :: r) = .int .i64 x.i :: .int .i64 (x.at_ : Nat) :: x.v :: rpgL r := by simp [rpgL, RPg.cells]
   have e2 : rpgL ((x :: r).set (k + 1) y) = .int .i64 x.i :: .int .i64 (x.at_ : Nat) :: x.v :: rpgL (r.set k y) := by simp [rpgL, RPg.cells]
   rw [e, e2, ← ih]
   rw [show (k + 1) * 3 = k * 3 + 1 + 1 + 1 by omega, show k * 3 + 1 + 1 + 1 + 1 = k * 3 + 1 + 1 + 1 + 1 from rfl, show k * 3 + 1 + 1 + 1 + 2 = k * 3 + 2 + 1 + 1 + 1 by omega]
   simp only [List.set_cons_succ]
theorem PgsAt.set {w : World} {B : Nat} {C : Nat → Prop} {g c n : Nat} {l : List RPg} (h : PgsAt w B (fun j => C j ∨ (Value.slice (some ⟨g, 0, none⟩) n c).ownBlock = some j) (.slice (some ⟨g, 0, none⟩) n c) l) (hn : n = l.length) (k : Nat) (hk : k < l.length) (y : RPg)
  (hd : BytesAt w y.v y.b ∧ ∀ b, y.v.ownBlock = some b → b < w.heap.size ∧ ¬ (C b ∨ (Value.slice (some ⟨g, 0, none⟩) n c).ownBlock = some b)) :
  PgsAt (((w.setCell ⟨g, k * 3, none⟩ (.int .i64 y.i)).setCell ⟨g, k * 3 + 1, none⟩ (.int .i64 (y.at_ : Nat))).setCell ⟨g, k * 3 + 2, none⟩ y.v) B (fun j => C j ∨ (Value.slice (some ⟨g, 0, none⟩) n c).ownBlock = some j) (.slice (some ⟨g, 0, none⟩) n c) (l.set k y) ∧
  Only (fun b => b = g) w (((w.setCell ⟨g, k * 3, none⟩ (.int .i64 y.i)).setCell ⟨g, k * 3 + 1, none⟩ (.int .i64 (y.at_ : Nat))).setCell ⟨g, k * 3 + 2, none⟩ y.v) := by
 subst hn
 have oo : Only (fun b => b = g) w (((w.setCell ⟨g, k * 3, none⟩ (.int .i64 y.i)).setCell ⟨g, k * 3 + 1, none⟩ (.int .i64 (y.at_ : Nat))).setCell ⟨g, k * 3 + 2, none⟩ y.v) :=
  (((Only.refl (fun b => b = g) w).setCell ⟨g, k * 3, none⟩ _ (fun _ => rfl)).setCell ⟨g, k * 3 + 1, none⟩ _ (fun _ => rfl)).setCell ⟨g, k * 3 + 2, none⟩ _ (fun _ => rfl)
 have keep : ∀ z : RPg, (BytesAt w z.v z.b ∧ ∀ b, z.v.ownBlock = some b → b < w.heap.size ∧ ¬ (C b ∨ (Value.slice (some ⟨g, 0, none⟩) l.length c).ownBlock = some b)) → BytesAt (((w.setCell ⟨g, k * 3, none⟩ (.int .i64 y.i)).setCell ⟨g, k * 3 + 1, none⟩ (.int .i64 (y.at_ : Nat))).setCell ⟨g, k * 3 + 2, none⟩ y.v) z.v z.b ∧ ∀ b, z.v.ownBlock = some b → b < (((w.setCell ⟨g, k * 3, none⟩ (.int .i64 y.i)).setCell ⟨g, k * 3 + 1, none⟩ (.int .i64 (y.at_ : Nat))).setCell ⟨g, k * 3 + 2, none⟩ y.v).heap.size ∧ ¬ (C b ∨ (Value.slice (some ⟨g, 0, none⟩) l.length c).ownBlock = some b) := fun z hz =>
  ⟨hz.1.keep oo (fun b e e' => (hz.2 b e).2 (.inr (by rw [e']; rfl))), fun b e => ⟨Nat.lt_of_lt_of_le (hz.2 b e).1 oo.size, (hz.2 b e).2⟩⟩
 refine ⟨⟨?_, fun z hz => ?_⟩, oo⟩
 ·have h1 := own_set h.own (k * 3) (by omega) (.int .i64 y.i)
  have h2 := own_set h1 (k * 3 + 1) (by omega) (.int .i64 (y.at_ : Nat))
  have h3 := own_set h2 (k * 3 + 2) (by omega) y.v
  rw [rpgL_set l k y hk] at h3
  rw [List.length_set]
  exact h3
 ·rcases List.mem_or_eq_of_mem_set hz with hz | rfl
  ·exact keep z (h.dat z hz)
  ·exact keep z hd
section
variable {w : World} {rk : Nat → Prop} {B r q : Nat} {tv kv nv : Value} {x : SS} {lk ln : List RPg}
theorem rput4_is (h : RsAt w rk B r q tv kv nv x lk ln) (hrk : ∀ k, rk k → k < w.heap.size) (hB : B ≤ w.heap.size) (i : Int) (hi0 : 0 ≤ i ∧ i < 728) (v : Value) (zs : List Nat) (hv : BytesAt w v zs) (hz : zs.length ≤ 116) (hi : isAt x.now i = true) :
  Calls Tryz.prog 26 #[.pointer (some ⟨r, 0, none⟩), .int .i64 i, v] w fun e w' => e = .returned (.int .i64 0) ∧ Hid (RsIs w rk B r q nv { x with now := putL x.now i (0, zs) } w') := by
 have HB := rbad_any r i w h.c6
 rw [show badE i = 0 from if_pos hi0] at HB
 have HF : Hid (Calls Tryz.prog 53 _ _ _) := find_any h i
 rw [hi] at HF
 obtain ⟨av, cv, hvf, hvr⟩ := hv.form
 have HV : Hid (BytesAt w v zs) := hv
 obtain ⟨m, hm⟩ : ∃ m, m = zs.length := ⟨_, rfl⟩
 have HM : Hid (m = zs.length) := hm
 have HZ : Hid (zs.length ≤ 116) := hz
 rw [← hm] at hvf hz
 subst hvf
 have hm2 : ¬ (116 : Int) < (m : Int) := by omega
 have hem := empty23
 have c5 := h.c5
 obtain ⟨k, hk⟩ : ∃ k, k = fi x.now i := ⟨_, rfl⟩
 obtain ⟨n, hn⟩ : ∃ n, n = ln.length := ⟨_, rfl⟩
 have hkx : k < x.now.length := by
  unfold isAt at hi
  rw [← hk] at hi
  rcases Nat.lt_or_ge k x.now.length with h1 | h1
  ·exact h1
  ·rw [List.getElem?_eq_none h1] at hi; cases hi
 have hkl : k < ln.length := by have := h.nowLen; omega
 obtain ⟨an, cn, hnv, hcn⟩ := h.now.form
 rw [← hk] at HF
 rw [← hn] at hnv
 have hlt := h.lt
 have hnow := h.now
 rw [hnv] at hnow
 obtain ⟨g, hga, hcells, hfz⟩ := hnow.get k hkl
 have kk0 : (0 : Int) ≤ (k : Int) := by omega
 have kk1 : (k : Int) < (n : Int) := by omega
 have HH : Hid (RsAt w rk B r q tv kv nv x lk ln) := h
 have HRK : Hid (∀ k, rk k → k < w.heap.size) := hrk
 have HNN : Hid (n = ln.length) := hn
 have HI : Hid (isAt x.now i = true) := hi
 have HK : Hid (k = fi x.now i) := hk
 clear hvr hm hv h hrk hk hn hcn hnow hkx
 subst hnv hga
 go_enter Tryz.func26, Tryz.ntmps26
 go_wp2_with fail
 refine HB.mono ?_
 rintro e w1 ⟨rfl, rfl⟩
 go_wp2_with fail
 refine (show Calls Tryz.prog 53 _ _ _ from HF.out).mono ?_
 rintro e w2 ⟨rfl, ho⟩
 obtain ⟨i0, hi0', hz0, hz1, hz2⟩ := info_parts info5
 obtain ⟨a1, c1, w3, hr1, own1, o3⟩ := app_copy 37 5 i0 _ 1 Tryz.underlying37 hi0' hz0 hz1 hz2 rfl rfl w2 (.slice av m cv) m _ (by have := (HV.out.frame ho).1; rw [← HM.out] at this; exact this) (fun j => rfl) (by omega)
 have o13 := ho.trans o3 (fun _ _ e => e)
 have HR1 : Hid _ := hr1
 obtain ⟨w4, hw4⟩ : ∃ q, q = w3.alloc (.cells #[.int .i64 i, .int .i64 0, .slice a1 m c1] 103) := ⟨_, rfl⟩
 have o14 : Only (fun _ => False) w1 w4 := by rw [hw4]; exact o13.alloc _
 have z4 : w4.cell? ⟨r, 5, none⟩ = some (.slice (some ⟨g, 0, none⟩) n cn) := o14.cell c5 (fun e => e)
 have hpb : w4.heap[w3.heap.size]? = some (.cells #[.int .i64 i, .int .i64 0, .slice a1 m c1] 103 (0, 0)) := by rw [hw4]; exact heap_alloc_new w3 _
 have p0 : w4.cell? ⟨w3.heap.size, 0, none⟩ = some (.int .i64 i) := by rw [cell_of_row _ _ _ _ _ _ hpb]; rfl
 have p1 : w4.cell? ⟨w3.heap.size, 1, none⟩ = some (.int .i64 0) := by rw [cell_of_row _ _ _ _ _ _ hpb]; rfl
 have p2 : w4.cell? ⟨w3.heap.size, 2, none⟩ = some (.slice a1 m c1) := by rw [cell_of_row _ _ _ _ _ _ hpb]; rfl
 obtain ⟨u0, _, g0⟩ := hcells 0 (by omega)
 obtain ⟨u1, _, g1⟩ := hcells 1 (by omega)
 obtain ⟨u2, _, g2⟩ := hcells 2 (by omega)
 have y0 := o14.cell g0 (fun e => e)
 have y1 := o14.cell g1 (fun e => e)
 have y2 := o14.cell g2 (fun e => e)
 have gl : g < w1.heap.size := World.block_lt_of_cell? w1 _ g0
 have yf0 : w4.frozen? ⟨g, k * 3, none⟩ = false := (o14.frozen gl (fun e => e)).trans (hfz 0 (by omega))
 have yf1 : w4.frozen? ⟨g, k * 3 + 1, none⟩ = false := (o14.frozen gl (fun e => e)).trans (hfz 1 (by omega))
 have yf2 : w4.frozen? ⟨g, k * 3 + 2, none⟩ = false := (o14.frozen gl (fun e => e)).trans (hfz 2 (by omega))
 rw [Nat.add_zero] at y0
 have HFIN : Hid (RsIs w1 rk B r q (.slice (some ⟨g, 0, none⟩) n cn) { x with now := putL x.now i (0, zs) } (((w4.setCell ⟨g, k * 3, none⟩ (.int .i64 i)).setCell ⟨g, k * 3 + 1, none⟩ (.int .i64 0)).setCell ⟨g, k * 3 + 2, none⟩ (.slice a1 m c1)).drew) := by
  have hh := HH.out
  have fr1 : Fresh w3 w2.heap.size (.slice a1 m c1) zs := ⟨by rw [BL_getD, ← HM.out]; exact own1, HV.out.2⟩
  have fr4 : Fresh w4 w2.heap.size (.slice a1 m c1) zs := fr1.frame (by rw [hw4]; exact (Only.refl _ w3).alloc _)
  have hs2 := ho.size
  have hp4 : PgsAt w4 B (fun j => muR rk r (.slice (some ⟨g, 0, none⟩) n cn) j ∨ (Value.slice (some ⟨g, 0, none⟩) n cn).ownBlock = some j) (.slice (some ⟨g, 0, none⟩) n cn) ln := hh.now.frame o14 (fun _ _ e => e) (fun _ _ e => e.elim) (fun k _ e => by
   rcases e with e | e
   ·exact e
   ·exact .inr (.inl e))
  have hC : ∀ j, (j = r ∨ rk j) → j < w1.heap.size := fun k e => e.elim (fun e => by rw [e]; exact hlt) (HRK.out k)
  obtain ⟨s1, s2⟩ := hp4.set HNN.out k hkl ⟨i, 0, zs, .slice a1 m c1⟩ ⟨fr4.bytes, fun b e => ⟨(fr4.1.lt b e).2, fun e' => by
   have h9 := (fr4.1.lt b e).1
   rcases e' with (e' | e' | e') | e'
   ·have := hC b (.inl e'); omega
   ·have := (hh.now.lt b e').2; omega
   ·have := hC b (.inr e'); omega
   ·have := (hh.now.lt b e').2; omega⟩⟩
  have oo : Only (fun b => (Value.slice (some ⟨g, 0, none⟩) n cn).ownBlock = some b) w1 (((w4.setCell ⟨g, k * 3, none⟩ (.int .i64 i)).setCell ⟨g, k * 3 + 1, none⟩ (.int .i64 0)).setCell ⟨g, k * 3 + 2, none⟩ (.slice a1 m c1)) := (o14.mono (fun _ _ e => e.elim)).trans s2 (fun b _ e => by rw [e]; rfl)
  obtain ⟨q1, q2⟩ := hh.setNow HRK.out oo (.slice (some ⟨g, 0, none⟩) n cn) (ln.set k ⟨i, 0, zs, .slice a1 m c1⟩) (putL x.now i (0, zs)) (s1.av (fun j _ e => by
   rcases e with (e | e) | e
   ·exact .inl (.inl e)
   ·exact .inl (.inr (.inr e))
   ·exact .inr e)) (fun b e => .inl e) (by
    rw [put_at hh.nowR HI.out, ← HK.out, List.map_set, hh.nowE]; rfl) (hh.nowR.put i _) (fun p hp => by
    rw [put_at hh.nowR HI.out] at hp
    rcases List.mem_or_eq_of_mem_set hp with hp | rfl
    ·exact hh.wf.now p hp
    ·exact ⟨hi0, .inl rfl, HZ.out⟩)
  have nr : ¬ (Value.slice (some ⟨g, 0, none⟩) n cn).ownBlock = some r := fun e => (hh.k2 r e).1 rfl
  have hcell : (((w4.setCell ⟨g, k * 3, none⟩ (.int .i64 i)).setCell ⟨g, k * 3 + 1, none⟩ (.int .i64 0)).setCell ⟨g, k * 3 + 2, none⟩ (.slice a1 m c1)).cell? ⟨r, 5, none⟩ = some (.slice (some ⟨g, 0, none⟩) n cn) := oo.cell c5 nr
  have same : ∀ (W : World) (a : Addr) (v : Value), W.cell? a = some v → Only (fun _ => False) (W.setCell a v) W := fun W a v hc => by
   refine ⟨rfl, rfl, rfl, by simp [World.setCell], fun j hj _ => ?_⟩
   exact (setCell_self W a v hc j).symm
  have od : Only (fun _ => False) ((((w4.setCell ⟨g, k * 3, none⟩ (.int .i64 i)).setCell ⟨g, k * 3 + 1, none⟩ (.int .i64 0)).setCell ⟨g, k * 3 + 2, none⟩ (.slice a1 m c1)).setCell ⟨r, 5, none⟩ (.slice (some ⟨g, 0, none⟩) n cn)) (((w4.setCell ⟨g, k * 3, none⟩ (.int .i64 i)).setCell ⟨g, k * 3 + 1, none⟩ (.int .i64 0)).setCell ⟨g, k * 3 + 2, none⟩ (.slice a1 m c1)).drew := (same _ _ _ hcell).drew
  exact ⟨_, _, _, _, _, q1.still od, q2.trans od (fun _ _ e => e.elim), fun b e => .inl e⟩
 clear HB HF hr1
 subst hw4
 go_wp2_with (at_builtin; refine wpList_append_run rfl _ _ 37 rfl (.slice (some ⟨w2.heap.size, 0, none⟩) 0 0) (.slice av m cv) (.slice a1 m c1) rfl rfl HR1.out ?_)
 go_region
 go_wp2
 go_ret
 exact ⟨rfl, HFIN⟩
end
end Go.Proofs.YtlcglapcmdpkfaaGreat
