import Derived.Test.YtlcglapcmdpkfaaGreatG12
import Derived.Test.YtlcglapcmdpkfaaGreatE3
import Derived.Test.YtlcglapcmdpkfaaGreatM8
namespace Go.Proofs.YtlcglapcmdpkfaaGreat
open Go.RowKit
set_option linter.unusedSimpArgs false
set_option linter.unusedVariables false
structure MidR (w : World) (B q K : Nat) (rv : Value) (rs : List RW) (d : DS) (W : World) (rv' : Value) (rs' : List RW) : Prop where
 ref : RefAt W B q K rv' d rs'
 ho : Only (refB q K rv rs) w W
 sub : ∀ b, refB q K rv' rs' b → refB q K rv rs b ∨ w.heap.size ≤ b
def RfIs (w : World) (B q K : Nat) (rv : Value) (rs : List RW) (d : DS) (W : World) : Prop := ∃ rv' rs', MidR w B q K rv rs d W rv' rs'
section
variable {w W : World} {B q K : Nat} {rv rv' : Value} {rs rs' : List RW} {d : DS}
theorem MidR.start (h : RefAt w B q K rv d rs) : MidR w B q K rv rs d w rv rs := ⟨h, Only.refl _ _, fun b e => .inl e⟩
theorem MidR.still {W' : World} (h : MidR w B q K rv rs d W rv' rs') (ho : Only (fun _ => False) W W') : MidR w B q K rv rs d W' rv' rs' :=
 ⟨h.ref.frame ho (fun _ _ e => e), h.ho.trans ho (fun _ _ e => e.elim), h.sub⟩
theorem MidR.step {W2 : World} {rv2 : Value} {rs2 : List RW} {d2 : DS} (h : MidR w B q K rv rs d W rv' rs') (h1 : RefAt W2 B q K rv2 d2 rs2) (h2 : Only (refB q K rv' rs') W W2) (h3 : ∀ b, refB q K rv2 rs2 b → refB q K rv' rs' b ∨ W.heap.size ≤ b) : MidR w B q K rv rs d2 W2 rv2 rs2 :=
 ⟨h1, h.ho.trans h2 (fun b hb e => by
  rcases h.sub b e with e | e
  ·exact e
  ·omega), fun b e => by
  rcases h3 b e with e | e
  ·exact h.sub b e
  ·exact .inr (by have := h.ho.size; omega)⟩
theorem MidR.put (h : MidR w B q K rv rs d W rv' rs') (hB : B ≤ w.heap.size) (a : Option Addr) (m c : Nat) (k : Int) (f : Nat → Int) (hr : RowAt W (.slice a m c) m 1 (fun j => .int .u8 (f j))) (hby : (d.pend.length + 1) * 72 ≤ 140737488355328) (hm : m ≤ 140737488351232) :
  Calls Tryz.prog 42 #[.pointer (some ⟨q, 0, none⟩), .int .i64 k, .slice a m c] W fun e W2 => e = .returned (.int .i64 (d.write k f m).1) ∧ Hid (RfIs w B q K rv rs (d.write k f m).2 W2) := by
 refine (rput_all h.ref a m c k f hr (by have := h.ho.size; omega) hby hm).mono ?_
 rintro e W2 ⟨rfl, rv2, rs2, h1, h2, h3⟩
 exact ⟨rfl, rv2, rs2, h.step h1 h2 h3⟩
theorem MidR.barrier (h : MidR w B q K rv rs d W rv' rs') (hg : Good d) (hp : d.pend.length ≤ 140737488351232) :
  Calls Tryz.prog 72 #[.pointer (some ⟨q, 0, none⟩)] W fun e W2 => e = .returned (.int .i64 d.barrier.1) ∧ Hid (RfIs w B q K rv rs d.barrier.2 W2) := by
 by_cases e : d.life = 0
 ·have hb : d.barrier = (3, d) := by simp [DS.barrier, e]
  rw [hb]
  refine (rbarrier_dead q W (by rw [← e]; exact h.ref.c3)).mono ?_
  rintro e w' ⟨rfl, rfl⟩
  exact ⟨rfl, _, _, h⟩
 ·have hb : d.barrier = (0, { d with pend := [], life := aged d.life }) := by simp [DS.barrier, e]
  rw [hb]
  refine (rbarrier_any h.ref hg e hp).mono ?_
  rintro e W2 ⟨rfl, h1, h2⟩
  refine ⟨rfl, _, _, h.step h1 (h2.mono (fun b _ e => e.elim .inl (fun e => .inr (.inl e)))) (fun b e => ?_)⟩
  rcases e with e | e | e | ⟨x, hx, _⟩
  ·exact .inl (.inl e)
  ·exact .inl (.inr (.inl e))
  ·cases e
  ·cases hx
theorem MidR.wpage (h : MidR w B q K rv rs d W rv' rs') (hB : B ≤ w.heap.size) (P : Int) (id : Nat) (v : Value) (D : List Nat) (hv : BytesAt W v D) (hid : id < 4294967296) (hp : d.pend.length ≤ 10000000000) (hb : ByteD d) (hg : Good d) :
  Calls Tryz.prog 91 #[.pointer (some ⟨q, 0, none⟩), .int .i64 P, .int .u32 id, v] W fun e W2 => e = .returned (.int .i64 (d.wpage P id D).1) ∧ Hid (RfIs w B q K rv rs (d.wpage P id D).2 W2) := by
 refine (rwrite_all q K B P id rv' v rs' d D W h.ref (by have := h.ho.size; omega) hv hid hp hb hg).mono ?_
 rintro e W2 ⟨rfl, rv2, rs2, h1, h2, h3⟩
 exact ⟨rfl, rv2, rs2, h.step h1 h2 h3⟩
end
theorem write_pend (d : DS) (k : Int) (f : Nat → Int) (m : Nat) : (d.write k f m).2.pend.length ≤ d.pend.length + 1 := by
 unfold DS.write
 split
 ·simp
 ·split
  ·simp
  ·split
   ·simp
   ·simp
theorem barrier_pend (d : DS) : d.barrier.2.pend.length ≤ d.pend.length := by
 unfold DS.barrier
 split
 ·exact Nat.le_refl _
 ·simp
theorem good_barrier {d : DS} (h : Good d) : Good d.barrier.2 := by
 unfold DS.barrier
 split
 ·exact h
 ·rfl
theorem rs_new {w W : World} {rk : Nat → Prop} {B r q : Nat} {N : Nat} (h : W.heap[r]? = some (.cells #[.pointer (some ⟨q, 0, none⟩), .int .i64 0, .int .u64 1, .slice none 0 0, .slice none 0 0, .slice none 0 0, .bool false] 97 (0, 0))) (hB : B ≤ r) (hrk : ¬ rk r) (h3 : 3 ≤ N) (h2 : N ≤ 2048) :
  RsAt W rk B r q (.slice none 0 0) (.slice none 0 0) (.slice none 0 0) (SS.new N) [] [] := by
 refine { cells := fun j v hv => ?_, there := fun j hj => ?_, rB := hB, k1 := hrk, k2 := (fun b e => by cases e), tabs := .inl ⟨rfl, rfl⟩, tabsB := (fun b e => by cases e), keptB := (fun b e => by cases e),
          kept := PgsAt.nil _ _ _, now := PgsAt.nil _ _ _, comE := rfl, nowE := rfl, comR := List.Pairwise.nil, nowR := List.Pairwise.nil, wf := new_wf N h3 h2 }
 ·rw [Nat.zero_add, cell_of_row _ _ _ _ _ _ h, ← hv]
  simp [rsL, SS.new]
 ·rw [Nat.zero_add]
  refine ⟨?_, frozen_of_row _ _ _ _ _ h⟩
  rw [cell_of_row _ _ _ _ _ _ h]
  have : j < 7 := hj
  simp [this]
def RFmIs (w : World) (B q K : Nat) (rv : Value) (rs : List RW) (d : DS) (e : Ending) (w' : World) : Prop :=
 (d.format.1 ≠ 0 ∧ e = .returned (.tuple #[.pointer none, .int .i64 (if d.n / 4 < 3 then 7 else 3)]) ∧ RfIs w B q K rv rs d.format.2 w') ∨
 (d.format.1 = 0 ∧ ∃ r, e = .returned (.tuple #[.pointer (some ⟨r, 0, none⟩), .int .i64 0]) ∧ w.heap.size ≤ r ∧ ∃ rv' rs', MidR w B q K rv rs d.format.2 w' rv' rs' ∧ RsAt w' (refB q K rv' rs') B r q (.slice none 0 0) (.slice none 0 0) (.slice none 0 0) (SS.new (d.n / 4)) [] [])
set_option maxRecDepth 100000 in
set_option maxHeartbeats 4000000 in
theorem rformat_any {w : World} {B q K : Nat} {rv : Value} {rs : List RW} {d : DS} (h : RefAt w B q K rv d rs) (hB : B ≤ w.heap.size) (hg : Good d) (hp : d.pend.length ≤ 10000000000) :
  Calls Tryz.prog 43 #[.pointer (some ⟨q, 0, none⟩)] w fun e w' => Hid (RFmIs w B q K rv rs d e w') := by
 have HC := rcount_any q d.n w h.n2 h.c0
 by_cases hn : d.n / 4 < 3
 ·have hf : d.format = (7, d) := by simp [DS.format, hn]
  have HQ : Hid (RFmIs w B q K rv rs d (.returned (.tuple #[.pointer none, .int .i64 7])) w) := .inl ⟨by rw [hf]; simp, by rw [if_pos hn], by rw [hf]; exact ⟨_, _, MidR.start h⟩⟩
  have h3 : ((d.n / 4 : Nat) : Int) < 3 := by omega
  clear h hg
  go_enter Tryz.func43, Tryz.ntmps43
  go_wp2_with fail
  refine HC.mono ?_
  rintro e w1 ⟨rfl, rfl⟩
  clear HC
  go_wp2
  go_ret2
  exact HQ
 ·have h3 : ¬ ((d.n / 4 : Nat) : Int) < 3 := by omega
  obtain ⟨wB, hwB⟩ : ∃ z, z = w.alloc (.cells #[.pointer (some ⟨q, 0, none⟩), .int .i64 0, .int .u64 1, .slice none 0 0, .slice none 0 0, .slice none 0 0, .bool false] 97) := ⟨_, rfl⟩
  have oB : Only (fun _ => False) w wB := by rw [hwB]; exact (Only.refl _ w).alloc _
  have hbox : wB.heap[w.heap.size]? = some (.cells #[.pointer (some ⟨q, 0, none⟩), .int .i64 0, .int .u64 1, .slice none 0 0, .slice none 0 0, .slice none 0 0, .bool false] 97 (0, 0)) := by rw [hwB]; exact heap_alloc_new w _
  have hsB : wB.heap.size = w.heap.size + 1 := by rw [hwB]; simp
  have hrB : RefAt wB B q K rv d rs := h.frame oB (fun _ _ e => e)
  have M0 : MidR wB B q K rv rs d wB rv rs := MidR.start hrB
  have hlt : ∀ b, refB q K rv rs b → b < w.heap.size := fun b e => (h.lt b e).2
  have hmk := mk32 (fun _ => 0) wB
  have e0 : fullF (fun _ => 0) 0 = fun _ => 0 := by funext j; simp [fullF]
  rw [e0] at hmk
  obtain ⟨Z, hZ⟩ : ∃ Z, Z = (secL (fun _ => 0)).toArray := ⟨_, rfl⟩
  rw [← hZ] at hmk
  obtain ⟨wZ, hwZ⟩ : ∃ z, z = wB.alloc (.cells Z 5) := ⟨_, rfl⟩
  have oZ : Only (fun _ => False) wB wZ := by rw [hwZ]; exact (Only.refl _ wB).alloc _
  have z32 : byF zeros32 = fun _ => 0 := by
   funext j
   unfold byF zeros32
   simp only [List.getD, List.getElem?_replicate]
   split <;> rfl
  have rowZ : RowAt wZ (.slice (some ⟨wB.heap.size, 0, none⟩) 32 32) 32 1 (fun j => .int .u8 (byF zeros32 j)) := by
   rw [z32]
   refine .inr ⟨⟨wB.heap.size, 0, none⟩, 32, rfl, Nat.le_refl _, fun j hj => ?_⟩
   rw [Addr.add_mid, Nat.zero_add, hwZ, cell_of_row _ _ _ _ _ _ (heap_alloc_new wB _), hZ]
   have := secL_get (fun _ => 0) j (by omega)
   simpa using this
  have HP1 : Hid (Calls Tryz.prog 42 _ _ _) := (M0.still oZ).put (by omega) (some ⟨wB.heap.size, 0, none⟩) 32 32 4 (byF zeros32) rowZ (by omega) (by omega)
  -- the way behind a world in which the disk is under way
  have HOUT : Hid (∀ (d' : DS) (W : World), RfIs wB B q K rv rs d' W → RfIs w B q K rv rs d' W) := fun d' W ⟨rv', rs', hm⟩ =>
   ⟨rv', rs', hm.ref, (oB.mono (fun _ _ e => e.elim)).trans hm.ho (fun _ _ e => e), fun b e => (hm.sub b e).imp id (fun e => by omega)⟩
  have HBOX : Hid (∀ (d' : DS) (W : World), RfIs wB B q K rv rs d' W → W.heap[w.heap.size]? = some (.cells #[.pointer (some ⟨q, 0, none⟩), .int .i64 0, .int .u64 1, .slice none 0 0, .slice none 0 0, .slice none 0 0, .bool false] 97 (0, 0))) := fun d' W ⟨rv', rs', hm⟩ => by
   rw [hm.ho.block _ (by omega) (fun e => by have := hlt _ e; omega)]; exact hbox
  obtain ⟨x1, hx1⟩ : ∃ x, x = d.write 4 (byF zeros32) 32 := ⟨_, rfl⟩
  rw [← hx1] at HP1
  have g1 : Good x1.2 := by rw [hx1]; exact hg.write _ _ _
  have hp1 : x1.2.pend.length ≤ d.pend.length + 1 := by rw [hx1]; exact write_pend ..
  have hk1 : d.keep 4 (byF zeros32) = if x1.1 ≠ 0 then x1 else x1.2.barrier := by unfold DS.keep; rw [← hx1]
  have HK1 : Hid (d.keep 4 (byF zeros32) = if x1.1 ≠ 0 then x1 else x1.2.barrier) := hk1
  clear hk1
  obtain ⟨x2, hx2⟩ : ∃ x, x = x1.2.barrier := ⟨_, rfl⟩
  rw [← hx2] at HK1
  have g2 : Good x2.2 := by rw [hx2]; exact good_barrier g1
  have hp2 : x2.2.pend.length ≤ d.pend.length + 1 := by rw [hx2]; exact Nat.le_trans (barrier_pend _) hp1
  obtain ⟨x3, hx3⟩ : ∃ x, x = x2.2.write 0 (byF (rootB 1 0 0)) 32 := ⟨_, rfl⟩
  have g3 : Good x3.2 := by rw [hx3]; exact g2.write _ _ _
  have hp3 : x3.2.pend.length ≤ d.pend.length + 2 := by rw [hx3]; have := write_pend x2.2 0 (byF (rootB 1 0 0)) 32; omega
  obtain ⟨x4, hx4⟩ : ∃ x, x = x3.2.barrier := ⟨_, rfl⟩
  have hfm : d.format = if x1.1 ≠ 0 then x1 else if x2.1 ≠ 0 then x2 else if x3.1 ≠ 0 then x3 else x4 := by
   unfold DS.format
   rw [if_neg hn, HK1.out]
   by_cases c1 : x1.1 = 0
   ·simp only [c1, ne_eq, not_true, if_false]
    by_cases c2 : x2.1 = 0
    ·simp only [c2, not_true, if_false]
     unfold DS.keep
     rw [← hx3, ← hx4]
    ·simp only [c2, not_false_iff, if_true]
   ·simp only [c1, ne_eq, not_false_iff, if_true]
  have HFM : Hid (d.format = if x1.1 ≠ 0 then x1 else if x2.1 ≠ 0 then x2 else if x3.1 ≠ 0 then x3 else x4) := hfm
  clear hfm
  have HN : Hid (¬ d.n / 4 < 3 ∧ 3 ≤ d.n / 4 ∧ d.n / 4 ≤ 2048) := ⟨hn, by omega, by have := h.n2; omega⟩
  have HDEAD : Hid (∀ (x : Int × DS) (W : World), d.format = x → x.1 ≠ 0 → RfIs wB B q K rv rs x.2 W → RFmIs w B q K rv rs d (.returned (.tuple #[.pointer none, .int .i64 3])) W) := fun x W hx h0 hr => .inl ⟨by rw [hx]; exact h0, by rw [if_neg HN.out.1], by rw [hx]; exact HOUT.out _ _ hr⟩
  have HOKK : Hid (∀ (x : Int × DS) (W : World), d.format = x → x.1 = 0 → RfIs wB B q K rv rs x.2 W → RFmIs w B q K rv rs d (.returned (.tuple #[.pointer (some ⟨w.heap.size, 0, none⟩), .int .i64 0])) W) := fun x W hx h0 hr => by
   obtain ⟨rv', rs', hm⟩ := HOUT.out _ _ hr
   obtain ⟨rv2, rs2, hm2⟩ := hr
   refine .inr ⟨by rw [hx]; exact h0, w.heap.size, rfl, Nat.le_refl _, rv2, rs2, ?_, ?_⟩
   ·rw [hx]
    exact ⟨hm2.ref, (oB.mono (fun _ _ e => e.elim)).trans hm2.ho (fun _ _ e => e), fun b e => (hm2.sub b e).imp id (fun e => by omega)⟩
   ·refine rs_new (w := w) (HBOX.out _ _ ⟨rv2, rs2, hm2⟩) hB (fun e => ?_) HN.out.2.1 HN.out.2.2
    rcases hm2.sub _ e with e | e
    ·have := hlt _ e; omega
    ·omega
  have hROOT : Hid (∀ (d' : DS) (W : World), RfIs wB B q K rv rs d' W → Calls Tryz.prog 73 #[.pointer (some ⟨w.heap.size, 0, none⟩)] W fun e w' => ∃ a c, e = .returned (.slice a 32 c) ∧ Hid (Fresh w' W.heap.size (.slice a 32 c) (rootB 1 0 0) ∧ Only (fun _ => False) W w')) := fun d' W hr => by
   have hb := HBOX.out _ _ hr
   exact rroot2_any w.heap.size 1 (.slice none 0 0) [] W (by rw [cell_of_row _ _ _ _ _ _ hb]; rfl) (by rw [cell_of_row _ _ _ _ _ _ hb]; rfl) (.inl ⟨rfl, rfl⟩) (by omega) (by simp) (by simp)
  have HB1 : Hid (∀ (d' : DS) (W : World), Good d' → d'.pend.length ≤ 100000000000 → RfIs wB B q K rv rs d' W → Calls Tryz.prog 72 #[.pointer (some ⟨q, 0, none⟩)] W fun e W2 => e = .returned (.int .i64 d'.barrier.1) ∧ Hid (RfIs wB B q K rv rs d'.barrier.2 W2)) := fun d' W hg' hp' ⟨rv', rs', hm⟩ => hm.barrier hg' (by omega)
  have HP2 : Hid (∀ (d' : DS) (W W2 : World) (a : Option Addr) (c : Nat), d'.pend.length ≤ 100000000000 → RfIs wB B q K rv rs d' W → Fresh W2 W.heap.size (.slice a 32 c) (rootB 1 0 0) → Only (fun _ => False) W W2 → Calls Tryz.prog 42 #[.pointer (some ⟨q, 0, none⟩), .int .i64 0, .slice a 32 c] W2 fun e W3 => e = .returned (.int .i64 (d'.write 0 (byF (rootB 1 0 0)) 32).1) ∧ Hid (RfIs wB B q K rv rs (d'.write 0 (byF (rootB 1 0 0)) 32).2 W3)) := fun d' W W2 a c hp' ⟨rv', rs', hm⟩ hf ho => by
   refine (hm.still ho).put (by omega) a 32 c 0 (byF (rootB 1 0 0)) ?_ (by omega) (by omega)
   have := hf.bytes.1
   rw [rootB_length] at this
   exact this
  have HG : Hid (Good x1.2 ∧ Good x2.2 ∧ Good x3.2 ∧ x1.2.pend.length ≤ 100000000000 ∧ x2.2.pend.length ≤ 100000000000 ∧ x3.2.pend.length ≤ 100000000000) := ⟨g1, g2, g3, by omega, by omega, by omega⟩
  have HX : Hid (x2 = x1.2.barrier ∧ x3 = x2.2.write 0 (byF (rootB 1 0 0)) 32 ∧ x4 = x3.2.barrier) := ⟨hx2, hx3, hx4⟩
  rw [hsB] at hmk HP1
  rw [hwZ, hwB] at HP1
  rw [hwB] at hmk
  have HWB : Hid (wB = _) := hwB
  clear h hg hx1 hx2 hx3 hx4 g1 g2 g3 hp1 hp2 hp3 hZ e0 rowZ M0 hrB hbox oB oZ hwZ z32 HK1 hlt hsB hwB
  go_enter Tryz.func43, Tryz.ntmps43
  go_wp2_with fail
  refine HC.mono ?_
  rintro e w1 ⟨rfl, rfl⟩
  clear HC
  go_wp2_with fail
  refine (show Calls Tryz.prog 42 _ _ _ from HP1.out).mono ?_
  rintro e w2 ⟨rfl, H2⟩
  rw [← HWB.out] at H2
  clear HP1 hmk
  by_cases c1 : x1.1 = 0
  ·rw [c1]
   have HC1 : Hid (x1.1 = 0) := c1
   have HB1' : Hid (Calls Tryz.prog 72 _ _ _) := HB1.out x1.2 w2 HG.out.1 HG.out.2.2.2.1 H2.out
   rw [← HX.out.1] at HB1'
   clear c1 H2
   go_wp2_with fail
   refine (show Calls Tryz.prog 72 _ _ _ from HB1'.out).mono ?_
   rintro e w3 ⟨rfl, H3⟩
   clear HB1'
   by_cases c2 : x2.1 = 0
   ·rw [c2]
    have HC2 : Hid (x2.1 = 0) := c2
    have HR : Hid (Calls Tryz.prog 73 _ _ _) := hROOT.out x2.2 w3 H3.out
    clear c2
    go_wp2_with fail
    refine (show Calls Tryz.prog 73 _ _ _ from HR.out).mono ?_
    rintro e w4 ⟨a4, c4, rfl, H4⟩
    have HP3 : Hid (Calls Tryz.prog 42 _ _ _) := HP2.out x2.2 w3 w4 a4 c4 HG.out.2.2.2.2.1 H3.out H4.out.1 H4.out.2
    rw [← HX.out.2.1] at HP3
    clear HR H3 H4
    go_wp2_with fail
    refine (show Calls Tryz.prog 42 _ _ _ from HP3.out).mono ?_
    rintro e w5 ⟨rfl, H5⟩
    clear HP3
    by_cases c3 : x3.1 = 0
    ·rw [c3]
     have HC3 : Hid (x3.1 = 0) := c3
     have HB2' : Hid (Calls Tryz.prog 72 _ _ _) := HB1.out x3.2 w5 HG.out.2.2.1 HG.out.2.2.2.2.2 H5.out
     rw [← HX.out.2.2] at HB2'
     clear c3 H5
     go_wp2_with fail
     refine (show Calls Tryz.prog 72 _ _ _ from HB2'.out).mono ?_
     rintro e w6 ⟨rfl, H6⟩
     have HFX : Hid (d.format = x4) := by show d.format = x4; rw [HFM.out, if_neg (by rw [HC1.out]; simp), if_neg (by rw [HC2.out]; simp), if_neg (by rw [HC3.out]; simp)]
     clear HB2'
     by_cases c4' : x4.1 = 0
     ·have HQ := HOKK.out x4 w6 HFX.out c4' H6.out
      have HQ' : Hid (RFmIs w1 B q K rv rs d (.returned (.tuple #[.pointer (some ⟨w1.heap.size, 0, none⟩), .int .i64 0])) w6) := HQ
      rw [c4']
      clear c4' HQ H6
      go_wp2
      go_ret2
      exact HQ'
     ·have HQ' : Hid (RFmIs w1 B q K rv rs d (.returned (.tuple #[.pointer none, .int .i64 3])) w6) := HDEAD.out x4 w6 HFX.out c4' H6.out
      generalize x4.1 = y at *
      have hy : (y != 0) = true := by simpa using c4'
      clear c4' H6
      go_wp2
      go_ret2
      exact HQ'
    ·have HQ' : Hid (RFmIs w1 B q K rv rs d (.returned (.tuple #[.pointer none, .int .i64 3])) w5) := HDEAD.out x3 w5 (by rw [HFM.out, if_neg (by rw [HC1.out]; simp), if_neg (by rw [HC2.out]; simp), if_pos c3]) c3 H5.out
     obtain ⟨y, hye⟩ : ∃ y, y = x3.1 := ⟨_, rfl⟩
     rw [← hye] at c3 ⊢
     have hy : (y != 0) = true := by simpa using c3
     clear c3 H5 hye
     go_wp2
     go_ret2
     exact HQ'
   ·have HQ' : Hid (RFmIs w1 B q K rv rs d (.returned (.tuple #[.pointer none, .int .i64 3])) w3) := HDEAD.out x2 w3 (by rw [HFM.out, if_neg (by rw [HC1.out]; simp), if_pos c2]) c2 H3.out
    obtain ⟨y, hye⟩ : ∃ y, y = x2.1 := ⟨_, rfl⟩
    rw [← hye] at c2 ⊢
    have hy : (y != 0) = true := by simpa using c2
    clear c2 H3 hye
    go_wp2
    go_ret2
    exact HQ'
  ·have HQ' : Hid (RFmIs w1 B q K rv rs d (.returned (.tuple #[.pointer none, .int .i64 3])) w2) := HDEAD.out x1 w2 (by rw [HFM.out, if_pos c1]) c1 H2.out
   obtain ⟨y, hye⟩ : ∃ y, y = x1.1 := ⟨_, rfl⟩
   rw [← hye] at c1 ⊢
   have hy : (y != 0) = true := by simpa using c1
   clear c1 H2 hye
   go_wp2
   go_ret2
   exact HQ'
end Go.Proofs.YtlcglapcmdpkfaaGreat
