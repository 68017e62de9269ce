/-      -/
import Derived.Test.YtlcglapcmdpkfaaGreatGas
import Derived.Test.YtlcglapcmdpkfaaGreatGak
import Derived.Deep.RegionLaw
import Derived.Test.YtlcglapcmdpkfaaGreatGae
import Derived.Test.YtlcglapcmdpkfaaGreatGar
namespace Go.Proofs.YtlcglapcmdpkfaaGreat
open Go.RowKit
set_option linter.unusedSimpArgs false
set_option linter.unusedVariables false
set_option maxRecDepth 100000
set_option maxHeartbeats 16000000
theorem info83 : (Tryz.prog.info? 69).map (fun i => (i.zero, i.size, i.bytes)) = some (some (.agg #[.int .i64 0, .slice none 0 0]), 2, 32) := by kernel_rfl
theorem ref_put {w w3 : World} {B r K : Nat} {pv : Value} {d : DS} {rs : List RW} (h : RefAt w B r K pv d rs) (k : Nat) (hk : k < d.n) (f : Nat → Int) (g cap : Nat) (v3 : Value) (own3 : w3.ownsRow B 69 2 v3 (rs.length + 1) (refL rs ++ [.int .i64 k, .slice (some ⟨g, 0, none⟩) 32 cap]))
  (o3 : Only (fun b => pv.ownBlock = some b) w w3) (hg : w3.rangeAt g 0 (secL f)) (hg1 : w.heap.size ≤ g) (hv : ∀ b, v3.ownBlock = some b → (pv.ownBlock = some b ∨ w.heap.size ≤ b) ∧ b ≠ g) (hB : B ≤ w.heap.size) :
  RefAt (w3.setCell ⟨r, 2, none⟩ v3) B r K v3 { d with sec := upd d.sec k f, pend := d.pend ++ [⟨k, d.sec k, f⟩] } (rs ++ [⟨⟨k, d.sec k, f⟩, g, cap⟩]) ∧ Only (fun b => b = r ∨ pv.ownBlock = some b) w (w3.setCell ⟨r, 2, none⟩ v3) := by
 have hrl := (h.lt r (.inl rfl)).2
 have hKl := (h.lt K (.inr (.inl rfl))).2
 have oP : Only (fun b => b = r) w3 (w3.setCell ⟨r, 2, none⟩ v3) := (Only.refl (fun b => b = r) w3).setCell _ _ (fun _ => rfl)
 have hKr : K ≠ r := Ne.symm h.rK
 have v3r : v3.ownBlock ≠ some r := fun e => by
  rcases (hv r e).1 with e | e
  ·exact h.hr e
  ·omega
 have v3K : v3.ownBlock ≠ some K := fun e => by
  rcases (hv K e).1 with e | e
  ·exact h.hK e
  ·omega
 refine ⟨{ rB := h.rB, KB := h.KB, rK := h.rK
           c0 := by rw [World.cell?_setCell_other _ _ _ _ (by simp)]; exact o3.cell h.c0 h.hr
           c1 := by rw [World.cell?_setCell_other _ _ _ _ (by simp)]; exact o3.cell h.c1 h.hr
           c2 := World.cell?_setCell_same _ _ _ (o3.cell h.c2 h.hr)
           c3 := by rw [World.cell?_setCell_other _ _ _ _ (by simp)]; exact o3.cell h.c3 h.hr
           f2 := by simpa using (o3.frozen (World.block_lt_of_cell? w _ h.c2) h.hr).trans h.f2
           f3 := by simpa using (o3.frozen (World.block_lt_of_cell? w _ h.c3) h.hr).trans h.f3
           kept := by
            simp only [undoW_write]
            exact oP.range (o3.range h.kept h.hK) hKr
           kth := oP.there (o3.there h.kth h.hK) hKr
           own := by
            have := oP.owns own3 (fun b hb e => v3r (by rw [hb, e]))
            rw [List.length_append, refL_snoc]
            exact this
           hr := v3r, hK := v3K
           tie := by rw [List.map_append, h.tie]; rfl
           at_ := fun x hx => by
            rcases List.mem_append.1 hx with hx | hx
            ·obtain ⟨h1, h2, h3, h4, h5⟩ := h.at_ x hx
             have hxl := (h.lt x.g (.inr (.inr (.inr ⟨x, hx, rfl⟩)))).2
             refine ⟨h1, oP.range (o3.range h2 h5) h3, h3, h4, fun e => ?_⟩
             rcases (hv _ e).1 with e | e
             ·exact h5 e
             ·omega
            ·obtain rfl : x = ⟨⟨k, d.sec k, f⟩, g, cap⟩ := by simpa using hx
             exact ⟨show B ≤ g by omega, oP.range hg (show ¬ g = r by omega), show g ≠ r by omega, show g ≠ K by omega, fun e => (hv _ e).2 rfl⟩
           bd := fun x hx => by
            rcases List.mem_append.1 hx with hx | hx
            ·exact h.bd x hx
            ·obtain rfl : x = ⟨k, d.sec k, f⟩ := by simpa using hx
             exact hk
           n1 := h.n1, n2 := h.n2, l1 := h.l1, l2 := h.l2 }, (o3.mono (fun _ _ e => .inr e)).trans oP (fun _ _ e => .inl e)⟩
theorem rput_len (r : Nat) (k : Int) (a : Option Addr) (m c : Nat) (w : World) (hm : m ≠ 32) :
  Calls Tryz.prog 42 #[.pointer (some ⟨r, 0, none⟩), .int .i64 k, .slice a m c] w fun e w' => e = .returned (.int .i64 2) ∧ w' = w := by
 have hm' : ¬ (m : Int) = 32 := by omega
 go_enter Tryz.func42, Tryz.ntmps42
 go_wp2
 go_ret
 exact ⟨rfl, rfl⟩
theorem rput_dead (r : Nat) (k : Int) (a : Option Addr) (c : Nat) (w : World) (h3 : w.cell? ⟨r, 3, none⟩ = some (.int .i64 0)) :
  Calls Tryz.prog 42 #[.pointer (some ⟨r, 0, none⟩), .int .i64 k, .slice a 32 c] w fun e w' => e = .returned (.int .i64 3) ∧ w' = w := by
 go_enter Tryz.func42, Tryz.ntmps42
 go_wp2
 go_ret
 exact ⟨rfl, rfl⟩
theorem rput_out (r n : Nat) (l k : Int) (a : Option Addr) (c : Nat) (w : World) (h0 : w.cell? ⟨r, 0, none⟩ = some (.int .i64 n)) (h3 : w.cell? ⟨r, 3, none⟩ = some (.int .i64 l)) (hl : (l == 0) = false) (hk : k < 0 ∨ n ≤ k) :
  Calls Tryz.prog 42 #[.pointer (some ⟨r, 0, none⟩), .int .i64 k, .slice a 32 c] w fun e w' => e = .returned (.int .i64 4) ∧ w' = w := by
 by_cases h : k < 0
 ·go_enter Tryz.func42, Tryz.ntmps42
  go_wp2
  go_ret
  exact ⟨rfl, rfl⟩
 ·have h' : (n : Int) ≤ k := by omega
  go_enter Tryz.func42, Tryz.ntmps42
  go_wp2
  go_ret
  exact ⟨rfl, rfl⟩
theorem rput_any {w : World} {B r K : Nat} {pv : Value} {d : DS} {rs : List RW} (h : RefAt w B r K pv d rs) (hl : d.life ≠ 0) (hlen : (d.pend.length + 1) * 72 ≤ 140737488355328) (k : Nat) (hk : k < d.n) (f : Nat → Int) (ga go c : Nat) (hf : w.rangeAt ga go (secL f)) (hB : B ≤ w.heap.size) :
  Calls Tryz.prog 42 #[.pointer (some ⟨r, 0, none⟩), .int .i64 k, .slice (some ⟨ga, go, none⟩) 32 c] w fun e w' => e = .returned (.int .i64 0) ∧ Hid (∃ pv' rs', RefAt w' B r K pv' { d with sec := upd d.sec k f, pend := d.pend ++ [⟨k, d.sec k, f⟩], life := aged d.life } rs' ∧ Only (fun b => b = r ∨ pv.ownBlock = some b) w w' ∧ (∀ b, refB r K pv' rs' b → refB r K pv rs b ∨ w.heap.size ≤ b)) := by
 obtain ⟨a, ca, hpv⟩ := h.form
 obtain ⟨i83, hi83, hz0, hz1, hz2⟩ := info_parts info83
 have hrl := h.len
 have oD : Only (fun _ => False) w w.drew := (Only.refl _ w).drew
 obtain ⟨g, cap, w2, hr1, hg, hg1, hg2, o2⟩ := copy32 w.drew ga go c f (oD.range hf (fun e => e))
 have o2' : Only (fun _ => False) w w2 := oD.trans o2 (fun _ _ e => e)
 obtain ⟨wL, hwL⟩ : ∃ x, x = w2.alloc (.cells #[.int .i64 k, .slice (some ⟨g, 0, none⟩) 32 cap] 69) := ⟨_, rfl⟩
 have oL : Only (fun _ => False) w2 wL := by rw [hwL]; exact (Only.refl _ w2).alloc _
 have oL' := o2'.trans oL (fun _ _ e => e)
 have hnew : ∀ j u, [Value.int .i64 k, .slice (some ⟨g, 0, none⟩) 32 cap][j]? = some u → wL.cell? ((⟨w2.heap.size, 0, none⟩ : Addr).add j) = some u := by rw [hwL]; exact World.news_of_block (heap_alloc_new w2 _)
 have hsL : wL.heap.size = w2.heap.size + 1 := by rw [hwL]; simp
 have key := fun ty => run_append_own_at (P := Tryz.prog) wL B 55 ty 69 i83 _ 2 32 Tryz.underlying55 hi83 hz0 hz1 hz2 rfl (by omega) pv rs.length (refL rs) (oL'.owns h.own (fun _ _ e => e)) ⟨w2.heap.size, 0, none⟩ 1 1 [.int .i64 k, .slice (some ⟨g, 0, none⟩) 32 cap] rfl hnew (by simp [Value.oneCell']) (by unfold maxLen; omega) (by omega) (by have := oL'.size; omega)
 obtain ⟨v3, w3, hr2, own3, hg3, _, hb3⟩ := key 0
 replace hr2 : ∀ ty, (Builtin.append_ #[55, 55] ty #[pv, .slice (some ⟨w2.heap.size, 0, none⟩) 1 1]).run Tryz.prog wL = .ok v3 w3 := fun ty => by rw [← hr2]; rfl
 clear key
 have o3 : Only (fun b => pv.ownBlock = some b) w w3 := (oL'.mono (fun _ _ e => e.elim)).grown hg3 (fun b hb _ => hb)
 have hgs : w.heap.size ≤ g := hg1
 have hpl : ∀ b, pv.ownBlock = some b → b < w.heap.size := fun b hb => (h.own.lt b hb).2
 have hg3r : w3.rangeAt g 0 (secL f) := ((Only.refl (fun b => pv.ownBlock = some b) wL).grown hg3 (fun b hb _ => hb)).range (oL.range hg (fun e => e)) (fun e => by have := hpl g e; omega)
 have hs2 := o2'.size
 have hv3 : ∀ b, v3.ownBlock = some b → (pv.ownBlock = some b ∨ w.heap.size ≤ b) ∧ b ≠ g := fun b hb => by
  rcases hb3 with e | e
  ·rw [e] at hb
   exact ⟨.inl hb, by have := hpl b hb; omega⟩
  ·rw [e] at hb
   simp at hb
   exact ⟨.inr (by omega), by omega⟩
 obtain ⟨rp, op⟩ := ref_put h k hk f g cap v3 own3 o3 hg3r hgs hv3 hB
 have hblk : ∀ b, refB r K v3 (rs ++ [⟨⟨k, d.sec k, f⟩, g, cap⟩]) b → refB r K pv rs b ∨ w.heap.size ≤ b := by
  rintro b (rfl | rfl | hb | ⟨x, hx, rfl⟩)
  ·exact .inl (.inl rfl)
  ·exact .inl (.inr (.inl rfl))
  ·rcases (hv3 b hb).1 with e | e
   ·exact .inl (.inr (.inr (.inl e)))
   ·exact .inr e
  ·rcases List.mem_append.1 hx with hx | hx
   ·exact .inl (.inr (.inr (.inr ⟨x, hx, rfl⟩)))
   ·obtain rfl : x = ⟨⟨k, d.sec k, f⟩, g, cap⟩ := by simpa using hx
    exact .inr hgs
 have HF1 : Hid (0 < d.life → ∃ pv' rs', RefAt ((w3.setCell ⟨r, 2, none⟩ v3).setCell ⟨r, 3, none⟩ (.int .i64 (d.life - 1))) B r K pv' { d with sec := upd d.sec k f, pend := d.pend ++ [⟨k, d.sec k, f⟩], life := aged d.life } rs' ∧ Only (fun b => b = r ∨ pv.ownBlock = some b) w ((w3.setCell ⟨r, 2, none⟩ v3).setCell ⟨r, 3, none⟩ (.int .i64 (d.life - 1))) ∧ (∀ b, refB r K pv' rs' b → refB r K pv rs b ∨ w.heap.size ≤ b)) := fun hl0 => by
  have hag : aged d.life = d.life - 1 := by simp [aged]; omega
  obtain ⟨rl, ol⟩ := ref_life rp (d.life - 1) (by omega) (by have := h.l2; omega)
  rw [hag]
  exact ⟨v3, _, rl, op.trans ol (fun _ _ e => .inl e), hblk⟩
 have HF2 : Hid (d.life = -1 → ∃ pv' rs', RefAt (w3.setCell ⟨r, 2, none⟩ v3) B r K pv' { d with sec := upd d.sec k f, pend := d.pend ++ [⟨k, d.sec k, f⟩], life := aged d.life } rs' ∧ Only (fun b => b = r ∨ pv.ownBlock = some b) w (w3.setCell ⟨r, 2, none⟩ v3) ∧ (∀ b, refB r K pv' rs' b → refB r K pv rs b ∨ w.heap.size ≤ b)) := fun hl0 => by
  have hag : aged d.life = d.life := by simp [aged, hl0]
  rw [hag]
  exact ⟨v3, _, rp, op, hblk⟩
 have HR1 : Hid _ := hr1
 have HR2 : Hid _ := hr2
 obtain ⟨a3, c3, hv3s⟩ := ownsRow_slice own3
 have c0 := h.c0
 have c2 := h.c2
 have c3' := h.c3
 have f2 := h.f2
 have f3 := h.f3
 have b2 : (w.alloc (.cells #[] 5)).cell? ⟨r, 2, none⟩ = some pv := ((Only.refl (fun _ => False) w).alloc _).cell c2 (fun e => e)
 have d2 : w2.cell? ⟨r, 2, none⟩ = some pv := o2'.cell c2 (fun e => e)
 have e2 : (w2.alloc (.cells #[.int .i64 k, .slice (some ⟨g, 0, none⟩) 32 cap] 69)).cell? ⟨r, 2, none⟩ = some pv := by rw [← hwL]; exact oL'.cell c2 (fun e => e)
 have g2 : w3.cell? ⟨r, 2, none⟩ = some pv := o3.cell c2 h.hr
 have g3 : w3.cell? ⟨r, 3, none⟩ = some (.int .i64 d.life) := o3.cell c3' h.hr
 have gf2 : w3.frozen? ⟨r, 2, none⟩ = false := (o3.frozen (World.block_lt_of_cell? w _ c2) h.hr).trans f2
 have gf3 : w3.frozen? ⟨r, 3, none⟩ = false := (o3.frozen (World.block_lt_of_cell? w _ c3') h.hr).trans f3
 have hl1 := h.l1
 have hl2 := h.l2
 have hlz : (d.life == 0) = false := by simpa using hl
 have k0 : ¬ (k : Int) < 0 := by omega
 have k1 : ¬ (d.n : Int) ≤ (k : Int) := by omega
 subst hpv hv3s
 rw [hwL] at HR2
 have hem := empty23
 clear rp op
 clear h hf hr1 hr2 hg hwL oL oL' o2 o2' oD hnew hg3 own3 o3 hg3r hv3 hb3 hblk hpl hrl hsL
 by_cases hl0 : 0 < d.life
 ·go_enter Tryz.func42, Tryz.ntmps42
  go_wp2_with fail
  go_region_law (first | (refine step_append_run (by rfl) _ _ 37 (by rfl) _ _ (.slice (some ⟨g, 0, none⟩) 32 cap) (by rfl) (by rfl) HR1.out ?_) | (refine step_append_run (by rfl) _ _ 55 (by rfl) _ _ (.slice a3 (rs.length + 1) c3) (by rfl) (by rfl) HR2.out ?_))
  all_goals (go_wp2; go_ret; exact ⟨rfl, HF1.out hl0⟩)
 ·have hl9 : Hid (d.life = -1) := by show d.life = -1; omega
  go_enter Tryz.func42, Tryz.ntmps42
  go_wp2_with fail
  go_region_law (first | (refine step_append_run (by rfl) _ _ 37 (by rfl) _ _ (.slice (some ⟨g, 0, none⟩) 32 cap) (by rfl) (by rfl) HR1.out ?_) | (refine step_append_run (by rfl) _ _ 55 (by rfl) _ _ (.slice a3 (rs.length + 1) c3) (by rfl) (by rfl) HR2.out ?_))
  all_goals (go_wp2; go_ret; exact ⟨rfl, HF2.out hl9.out⟩)
theorem rput_all {w : World} {B r K : Nat} {rv : Value} {d : DS} {rs : List RW} (h : RefAt w B r K rv d rs) (a : Option Addr) (m c : Nat) (k : Int) (f : Nat → Int) (hr : RowAt w (.slice a m c) m 1 (fun j => .int .u8 (f j))) (hB : B ≤ w.heap.size) (hby : (d.pend.length + 1) * 72 ≤ 140737488355328) (hm : m ≤ 140737488351232) :
  Calls Tryz.prog 42 #[.pointer (some ⟨r, 0, none⟩), .int .i64 k, .slice a m c] w fun e w' => e = .returned (.int .i64 (d.write k f m).1) ∧ ∃ rv' rs', RefAt w' B r K rv' (d.write k f m).2 rs' ∧ Only (refB r K rv rs) w w' ∧ (∀ b, refB r K rv' rs' b → refB r K rv rs b ∨ w.heap.size ≤ b) := by
 have same : ∀ (x : Int) (e : Ending) (w' : World), d.write k f m = (x, d) → e = .returned (.int .i64 x) ∧ w' = w → e = .returned (.int .i64 (d.write k f m).1) ∧ ∃ rv' rs', RefAt w' B r K rv' (d.write k f m).2 rs' ∧ Only (refB r K rv rs) w w' ∧ (∀ b, refB r K rv' rs' b → refB r K rv rs b ∨ w.heap.size ≤ b) := by
  rintro x e w' hw ⟨rfl, rfl⟩
  rw [hw]
  exact ⟨rfl, rv, rs, h, Only.refl _ _, fun b hb => .inl hb⟩
 by_cases e1 : m = 32
 ·subst e1
  by_cases e2 : d.life = 0
  ·refine (rput_dead r k a c w (by rw [← e2]; exact h.c3)).mono fun e w' hh => same 3 e w' (by simp [DS.write, e2]) hh
  ·by_cases e3 : k < 0 ∨ (d.n : Int) ≤ k
   ·refine (rput_out r d.n d.life k a c w h.c0 h.c3 (by simpa using e2) e3).mono fun e w' hh => same 4 e w' (by simp [DS.write, e2, e3]) hh
   ·obtain ⟨g, o, c', hv, hcell, hg⟩ := hr.at (by omega)
    simp only [Value.slice.injEq] at hv
    obtain ⟨rfl, _, rfl⟩ := hv
    have hk : k = (k.toNat : Int) := by omega
    have hrange : w.rangeAt g o (secL f) := fun j v hv => by
     have hj : j < 32 := by have := (List.getElem?_eq_some_iff.1 hv).1; rwa [secL_length] at this
     rw [secL_get _ _ hj] at hv
     rw [hcell j (by omega)]; exact hv
    have hwr : d.write k f 32 = (0, { d with sec := upd d.sec k.toNat f, pend := d.pend ++ [⟨k.toNat, d.sec k.toNat, f⟩], life := aged d.life }) := by simp [DS.write, e2, e3]
    rw [hwr]
    have := rput_any h e2 hby k.toNat (by omega) f g o c hrange hB
    rw [← hk] at this
    refine this.mono ?_
    rintro e w' ⟨rfl, rv', rs', q1, q2, q3⟩
    exact ⟨rfl, rv', rs', q1, q2.mono (fun b _ e => e.elim .inl (fun e => .inr (.inr (.inl e)))), q3⟩
 ·refine (rput_len r k a m c w e1).mono fun e w' hh => same 2 e w' (by simp [DS.write, e1]) hh
structure Both (w0 w : World) (p S : Nat) (pv : Value) (r K : Nat) (rv : Value) (rs : List RW) (d : DS) (X : Nat) : Prop where
 disk : DiskAt w w0.heap.size p S pv d
 ref : RefAt w w0.heap.size r K rv d rs
 good : Good d
 byte : ByteD d
 sep : ∀ b, diskB p S pv b → ¬ refB r K rv rs b
 only : Only (fun _ => False) w0 w
 x1 : ¬ diskB p S pv X
 x2 : ¬ refB r K rv rs X
def Next (w0 w : World) (p S r K : Nat) (d : DS) : Prop := ∃ pv rv rs d', Both w0 w p S pv r K rv rs d' w.heap.size ∧ d'.n = d.n ∧ d'.pend.length ≤ d.pend.length + 4
theorem Both.frame {w0 w w' : World} {p S : Nat} {pv : Value} {r K : Nat} {rv : Value} {rs : List RW} {d : DS} {X : Nat} (h : Both w0 w p S pv r K rv rs d X) (ho : Only (fun _ => False) w w') : Both w0 w' p S pv r K rv rs d X :=
 ⟨h.disk.frame ho (fun _ _ e => e), h.ref.frame ho (fun _ _ e => e), h.good, h.byte, h.sep, h.only.trans ho (fun _ _ e => e), h.x1, h.x2⟩
theorem Both.next {w0 w w1 w2 : World} {p S : Nat} {pv pv' : Value} {r K : Nat} {rv rv' : Value} {rs rs' : List RW} {d d' : DS} {X : Nat} (h : Both w0 w p S pv r K rv rs d X) (hd : DiskAt w1 w0.heap.size p S pv' d') (o1 : Only (diskB p S pv) w w1) (b1 : ∀ b, pv'.ownBlock = some b → pv.ownBlock = some b ∨ w.heap.size ≤ b)
  (hr : RefAt w2 w0.heap.size r K rv' d' rs') (o2 : Only (refB r K rv rs) w1 w2) (b2 : ∀ b, refB r K rv' rs' b → refB r K rv rs b ∨ w1.heap.size ≤ b) (hg : Good d') (hby : ByteD d') (hn : d'.n = d.n) (hp : d'.pend.length ≤ d.pend.length + 4) : Next w0 w2 p S r K d := by
 have s1 := o1.size
 have hdl := hd.lt
 have hsz := h.only.size
 have hdb : ∀ b, diskB p S pv' b → diskB p S pv b ∨ w.heap.size ≤ b := by
  rintro b (rfl | rfl | hb)
  ·exact .inl (.inl rfl)
  ·exact .inl (.inr (.inl rfl))
  ·exact (b1 b hb).imp (fun e => .inr (.inr e)) id
 have hrl : ∀ b, refB r K rv rs b → b < w.heap.size := fun b hb => (h.ref.lt b hb).2
 have sep1 : ∀ b, diskB p S pv' b → ¬ refB r K rv rs b := fun b hb e => by
  rcases hdb b hb with h1 | h1
  ·exact h.sep b h1 e
  ·have := hrl b e; omega
 refine ⟨pv', rv', rs', d', ⟨hd.frame o2 sep1, hr, hg, hby, fun b hb e => ?_, (h.only.trans o1 (fun b hb e => by have := (h.disk.lt b e).1; omega)).trans o2 (fun b hb e => by have := (h.ref.lt b e).1; omega), fun e => by have := ((hd.frame o2 sep1).lt _ e).2; omega, fun e => by have := (hr.lt _ e).2; omega⟩, hn, hp⟩
 rcases b2 b e with h1 | h1
 ·exact sep1 b hb h1
 ·have := (hdl b hb).2; omega
theorem Both.same {w0 w w2 : World} {p S : Nat} {pv : Value} {r K : Nat} {rv : Value} {rs : List RW} {d : DS} {X : Nat} (h : Both w0 w p S pv r K rv rs d X) (ho : Only (fun _ => False) w w2) : Next w0 w2 p S r K d := by
 have f := h.frame ho
 exact ⟨pv, rv, rs, d, ⟨f.disk, f.ref, f.good, f.byte, f.sep, f.only, fun e => by have := (f.disk.lt _ e).2; omega, fun e => by have := (f.ref.lt _ e).2; omega⟩, rfl, by omega⟩
theorem rpack_large (id : Int) (a : Option Addr) (n c : Nat) (w : World) (h : 116 < n) :
  Calls Tryz.prog 112 #[.int .u32 id, .slice a n c] w fun e w' => e = .returned (.tuple #[.slice none 0 0, .int .i64 11]) ∧ w' = w := by
 have h1 : (116 : Int) < (n : Int) := by omega
 go_enter Tryz.func112, Tryz.ntmps112
 go_wp2
 go_ret2
 exact ⟨rfl, rfl⟩
theorem rep_snoc (l : List Nat) (k : Nat) : l ++ List.replicate (k + 1) 0 = (l ++ List.replicate k 0) ++ [0] := by
 rw [List.replicate_succ', List.append_assoc]
theorem rpack_ok (id : Nat) (v : Value) (D : List Nat) (w : World) (h : BytesAt w v D) (hD : D.length ≤ 116) (hid : id < 4294967296) :
  Calls Tryz.prog 112 #[.int .u32 id, v] w fun e w' => ∃ u, e = .returned (.tuple #[u, .int .i64 0]) ∧ Fresh w' w.heap.size u (page id D) ∧ Only (fun _ => False) w w' := by
 obtain ⟨a, c, rfl, hcap, hc⟩ := h.form
 have HBY : Hid (BytesAt w (.slice a D.length c) D) := h
 obtain ⟨n, hn⟩ : ∃ m, m = D.length := ⟨_, rfl⟩
 have HN : Hid (n = D.length) := hn
 have n1 : ¬ (116 : Int) < (n : Int) := by omega
 have n2 : n ≤ 116 := by omega
 have hw64 : IntKind.u64.wrap (n : Int) = (n : Int) := by simp [IntKind.wrap, IntKind.bits, IntKind.signed]; omega
 rw [← hn] at HBY
 rw [← hn]
 clear h hc hn hcap hD
 go_enter Tryz.func112, Tryz.ntmps112
 go_wp2_with fail
 refine (lay_any id w (by omega)).mono ?_
 rintro e w1 ⟨u1, rfl, hf1, ho1⟩
 have HF1 : Hid (Fresh w1 w.heap.size u1 (lay4 id)) := hf1
 have HO1 : Hid (Only (fun _ => False) w w1) := ho1
 clear hf1 ho1
 go_wp2_with fail
 refine (lay_any n w1 (by omega)).mono ?_
 rintro e w2 ⟨u2, rfl, hf2, ho2⟩
 have ho12 : Only (fun _ => False) w w2 := HO1.out.trans ho2 (fun _ _ e => e)
 obtain ⟨a3, c3, w3, hr3, hf3, ho3⟩ := app_fresh (HF1.out.frame ho2) hf2.bytes ho12.size (by simp [lay4_length])
 have ho13 : Only (fun _ => False) w w3 := ho12.trans ho3 (fun i hi e => by omega)
 rw [lay4_length, lay4_length] at hr3 hf3
 obtain ⟨a4, c4, w4, hr4, hf4, ho4⟩ := app_fresh hf3 (HBY.out.frame ho13) ho13.size (by simp only [List.length_append, lay4_length]; have := HN.out; omega)
 have e4 : (lay4 id ++ lay4 n).length + D.length = 8 + n := by simp only [List.length_append, lay4_length]; have := HN.out; omega
 rw [e4] at hr4 hf4
 have HR3 : Hid _ := hr3
 have HR4 : Hid _ := hr4
 have HF4 : Hid (Fresh w4 w.heap.size (.slice a4 (8 + n) c4) ((lay4 id ++ lay4 n) ++ D)) := hf4
 have HO4 : Hid (Only (fun _ => False) w w4) := ho13.trans ho4 (fun i hi e => by omega)
 clear hf2 ho2 ho12 hr3 hf3 ho3 ho13 hr4 hf4 ho4 e4 HF1 HO1
 go_wp2_with (at_builtin; first | (refine wpList_append_run rfl _ _ 37 rfl _ _ (.slice a3 (4 + 4) c3) rfl rfl HR3.out ?_) | (refine wpList_append_run rfl _ _ 37 rfl _ _ (.slice a4 (8 + n) c4) rfl rfl HR4.out ?_))
 clear HR3 HR4
 go_loopw [6] (fun b wr => ∃ k : Nat, k ≤ 116 - n ∧ Fresh wr w.heap.size b (((lay4 id ++ lay4 n) ++ D) ++ List.replicate k 0) ∧ Only (fun _ => False) w wr) (fun b _ => match b with | .slice _ m _ => 124 - m | _ => 0)
 case atStart => exact ⟨0, by omega, by simpa using HF4.out, HO4.out⟩
 case round =>
  obtain ⟨k, hk, hf, ho⟩ := hrel
  obtain ⟨w5, rfl⟩ : ∃ w2, w2 = wr := ⟨_, rfl⟩
  have hl : (((lay4 id ++ lay4 n) ++ D) ++ List.replicate k 0).length = 8 + n + k := by simp only [List.length_append, lay4_length, List.length_replicate]; have := HN.out; omega
  obtain ⟨a5, c5, rfl⟩ := hf.form
  rw [hl] at hf
  rw [hl]
  have HF : Hid (Fresh w5 w.heap.size (.slice a5 (8 + n + k) c5) (((lay4 id ++ lay4 n) ++ D) ++ List.replicate k 0)) := hf
  have HO : Hid (Only (fun _ => False) w w5) := ho
  obtain ⟨m, hm⟩ : ∃ m, m = 8 + n + k := ⟨_, rfl⟩
  rw [← hm] at hf hl HF
  rw [← hm]
  have HMM : Hid (m = 8 + n + k) := hm
  by_cases hlt : k < 116 - n
  ·have k1 : (m : Int) < 124 := by omega
   obtain ⟨a6, c6, w6, hr6, hf6, ho6⟩ := app_one hf ho.size 0 (by omega) (by omega)
   rw [hl] at hr6 hf6
   have HR : Hid _ := hr6
   have HF6 : Hid (Fresh w6 w.heap.size (.slice a6 (m + 1) c6) (((lay4 id ++ lay4 n) ++ D) ++ List.replicate (k + 1) 0)) := by rw [rep_snoc]; exact hf6
   have HO6 : Hid (Only (fun _ => False) w w6) := ho.trans ho6 (fun i hi e => by omega)
   clear hf ho hr6 hf6 ho6 hl hm
   go_wp2_with (at_builtin; go_must (refine wpList_append_run rfl _ _ 37 rfl _ _ (.slice a6 (m + 1) c6) rfl rfl HR.out ?_))
   go_roundw
   case rel => exact ⟨k + 1, by omega, HF6.out, HO6.out⟩
   case measure => show 124 - (m + 1) < 124 - m; omega
  ·have hk2 : k = 116 - n := by omega
   have k1 : ¬ (m : Int) < 124 := by omega
   have hrest : ((lay4 id ++ lay4 n) ++ D) ++ List.replicate k 0 = rest id D := by
    unfold rest
    rw [hk2, ← HN.out, List.append_assoc, List.append_assoc]
   rw [hrest] at HF
   have hsum : sumN (rest id D) < 4294967296 := sumN_lt _ HF.out.2.2
   have HS : Hid (Calls Tryz.prog 128 #[.slice a5 m c5] w5 fun e w' => e = .returned (.int .u32 (sumN (rest id D) : Nat)) ∧ w' = w5) := rsum_any _ _ _ HF.out.bytes
   obtain ⟨x, hx⟩ : ∃ x, x = sumN (rest id D) := ⟨_, rfl⟩
   have HX : Hid (x = sumN (rest id D)) := hx
   rw [← hx] at hsum HS
   clear hf ho hrest hx hl hm hk2
   go_wp2_with fail
   refine (show Calls Tryz.prog 128 _ _ _ from HS.out).mono ?_
   rintro e w6 ⟨rfl, rfl⟩
   clear HS
   go_wp2_with fail
   refine (lay_any x w6 (by omega)).mono ?_
   rintro e w7 ⟨u7, rfl, hf7, ho7⟩
   have ho17 : Only (fun _ => False) w w7 := HO.out.trans ho7 (fun _ _ e => e)
   obtain ⟨a8, c8, w8, hr8, hf8, ho8⟩ := app_fresh hf7 (HF.out.bytes.frame ho7) ho7.size (by rw [lay4_length]; have := HF.out.2.1; rw [rest_length id D (by have := HN.out; omega)]; omega)
   rw [lay4_length, rest_length id D (by have := HN.out; omega)] at hr8 hf8
   have HR8 : Hid _ := hr8
   have HF8 : Hid (Fresh w8 w.heap.size (.slice a8 (4 + 124) c8) (page id D)) := by
    unfold page
    rw [← HX.out]
    have h1 := hf8
    refine ⟨⟨h1.1.1, ?_⟩, h1.2⟩
    rcases h1.1.2 with h2 | ⟨g, cap, cur, hv, hb, hr⟩
    ·exact .inl h2
    ·exact .inr ⟨g, cap, cur, hv, by have := HO.out.size; omega, hr⟩
   have HO8 : Hid (Only (fun _ => False) w w8) := ho17.trans ho8 (fun i hi e => by have := HO.out.size; omega)
   clear hf7 ho7 ho17 hr8 hf8 ho8 HF HO
   go_wp2_with (at_builtin; go_must (refine wpList_append_run rfl _ _ 37 rfl _ _ (.slice a8 (4 + 124) c8) rfl rfl HR8.out ?_))
   go_ret2
   exact ⟨_, rfl, HF8.out, HO8.out⟩
theorem same_dec (v1 v2 : Value) (A B : List Nat) (w : World) (h1 : BytesAt w v1 A) (h2 : BytesAt w v2 B) :
  Calls Tryz.prog 10 #[v1, v2] w fun e w' => e = .returned (.bool (decide (A = B))) ∧ Only (fun _ => False) w w' := by
 obtain ⟨a1, c1, rfl, _, f1⟩ := h1.form
 obtain ⟨a2, c2, rfl, _, f2⟩ := h2.form
 by_cases hlen : A.length = B.length
 ·rw [← hlen] at f2
  rw [← hlen]
  obtain ⟨m, hm⟩ : ∃ m, m = A.length := ⟨_, rfl⟩
  have HM : Hid (m = A.length ∧ m = B.length) := ⟨hm, hm.trans hlen⟩
  have hm2 : m ≤ 140737488355328 := hm ▸ h1.2.1
  rw [← hm]
  rw [← hm] at f1 f2
  have F1 : Hid _ := f1
  have F2 : Hid _ := f2
  clear h1 h2 hm hlen f1 f2
  go_enter Tryz.func10, Tryz.ntmps10
  go_wp2
  go_loopw [5] (fun t wr => ∃ k : Nat, k ≤ m ∧ t = .int .i64 k ∧ A.take k = B.take k ∧ Only (fun _ => False) w wr) (fun t _ => m - (intOf t).toNat)
  case atStart => exact ⟨0, Nat.zero_le _, rfl, rfl, Only.refl _ _⟩
  case round =>
   obtain ⟨k, hk, rfl, htk, ho⟩ := hrel
   have HTK : Hid (A.take k = B.take k) := htk
   clear htk
   by_cases hlt : k < m
   ·obtain ⟨g1, o1, rfl, x1⟩ := F1.out k hlt
    obtain ⟨g2, o2, rfl, x2⟩ := F2.out k hlt
    have y1 := ho.cell x1 (fun e => e)
    have y2 := ho.cell x2 (fun e => e)
    have k0 : (0 : Int) ≤ (k : Int) := Int.natCast_nonneg _
    have k1 : (k : Int) < (m : Int) := by omega
    obtain ⟨z1, hz1⟩ : ∃ z, z = A.getD k 0 := ⟨_, rfl⟩
    obtain ⟨z2, hz2⟩ : ∃ z, z = B.getD k 0 := ⟨_, rfl⟩
    rw [← hz1] at y1
    rw [← hz2] at y2
    have HZ : Hid (z1 = A.getD k 0 ∧ z2 = B.getD k 0) := ⟨hz1, hz2⟩
    have HO : Hid (Only (fun _ => False) w wr) := ho
    clear x1 x2 ho hz1 hz2
    by_cases hzz : z1 = z2
    ·have he : ((z1 : Int) != (z2 : Int)) = false := by simp [hzz]
     have HZZ : Hid (z1 = z2) := hzz
     clear hzz
     go_wp2_with fail
     go_region_held3 (fun w' => w'.cell? ⟨g1, o1 + k, none⟩ = some (.int .u8 (z1 : Nat)) ∧ w'.cell? ⟨g2, o2 + k, none⟩ = some (.int .u8 (z2 : Nat))) (go_keep) (fail)
     go_wp2
     go_roundw
     case rel =>
      refine ⟨k + 1, by omega, by go_num, ?_, HO.out.drew⟩
      rw [take_one A k (by have := HM.out; omega), take_one B k (by have := HM.out; omega), HTK.out, ← HZ.out.1, ← HZ.out.2, HZZ.out]
     case measure => simp [intOf]; omega
    ·have he : ((z1 : Int) != (z2 : Int)) = true := by simp; omega
     have HNE : Hid (A ≠ B) := fun e => hzz (by rw [HZ.out.1, HZ.out.2, e])
     go_wp2_with fail
     go_region_held3 (fun w' => w'.cell? ⟨g1, o1 + k, none⟩ = some (.int .u8 (z1 : Nat)) ∧ w'.cell? ⟨g2, o2 + k, none⟩ = some (.int .u8 (z2 : Nat))) (go_keep) (fail)
     go_wp2
     go_ret
     exact ⟨by rw [decide_eq_false HNE.out]; rfl, HO.out.drew⟩
   ·obtain rfl : k = m := by omega
    have HE : Hid (A = B) := by
     have := HTK.out
     show _ = _
     rwa [List.take_of_length_le (by have := HM.out; omega), List.take_of_length_le (by have := HM.out; omega)] at this
    have HO : Hid (Only (fun _ => False) w wr) := ho
    clear ho
    go_wp2
    go_ret
    exact ⟨by rw [decide_eq_true HE.out]; rfl, HO.out⟩
 ·have he : ((A.length : Int) != (B.length : Int)) = true := by simp; omega
  have HNE : Hid (A ≠ B) := fun e => hlen (by rw [e])
  obtain ⟨n1, hn1⟩ : ∃ n, n = A.length := ⟨_, rfl⟩
  obtain ⟨n2, hn2⟩ : ∃ n, n = B.length := ⟨_, rfl⟩
  rw [← hn1, ← hn2] at he
  rw [← hn1, ← hn2]
  clear h1 h2 f1 f2 hlen hn1 hn2
  go_enter Tryz.func10, Tryz.ntmps10
  go_wp2
  go_ret
  exact ⟨by rw [decide_eq_false HNE.out]; rfl, Only.refl _ _⟩
theorem runpack_any (v : Value) (b : List Nat) (w : World) (h : BytesAt w v b) (hb : b.length = 128) :
  Calls Tryz.prog 117 #[v] w fun e w' => UnpIs (unp b) w e w' := by
 obtain ⟨i0, hi0, hz0, hz1, hz2⟩ := info_parts info5
 have hem := empty23
 obtain ⟨a, c, rfl, hcap, hc⟩ := h.form
 obtain ⟨g, o, rfl, _⟩ := hc 0 (by omega)
 rw [hb] at h hcap
 rw [hb]
 have HBY : Hid (BytesAt w (.slice (some ⟨g, o, none⟩) 128 c) b) := h
 obtain ⟨x4, hx4⟩ : ∃ x, x = val4 b 4 := ⟨_, rfl⟩
 obtain ⟨s, hs⟩ : ∃ x, x = val4 b 8 := ⟨_, rfl⟩
 have HL8 : Hid (Calls Tryz.prog 98 #[.slice (some ⟨g, o + 8, none⟩) 4 (c - 8)] w fun e w' => e = .returned (.int .u64 (s : Nat)) ∧ w' = w) := by
  have := laid_any _ _ w (h.cut 8 4 (c - 8) (by omega) (by omega)) (by simp; omega)
  rwa [laid4 b 8 (by omega), ← hs] at this
 have HL4 : Hid (Calls Tryz.prog 98 #[.slice (some ⟨g, o + 4, none⟩) 4 (c - 4)] w fun e w' => e = .returned (.int .u64 (x4 : Nat)) ∧ w' = w) := by
  have := laid_any _ _ w (h.cut 4 4 (c - 4) (by omega) (by omega)) (by simp; omega)
  rwa [laid4 b 4 (by omega), ← hx4] at this
 have hs32 : s < 4294967296 := by rw [hs]; exact val4_lt h.2.2 8
 have hx32 : x4 < 4294967296 := by rw [hx4]; exact val4_lt h.2.2 4
 have HBL : Hid (b.length = 128) := hb
 have c1 : (12 : Int) ≤ (c : Int) := by omega
 have c2 : (8 : Int) ≤ (c : Int) := by omega
 have hxw : IntKind.u32.wrap (x4 : Int) = (x4 : Int) := by rw [IntKind.wrap_u32]; omega
 by_cases hlg : 116 < s
 ·have s1 : (116 : Int) < (s : Int) := by omega
  have HU : Hid (unp b = none) := unp_large b (by rw [← hs]; exact hlg)
  clear hc h hx4 hs hb HL4 hlg
  go_enter Tryz.func117, Tryz.ntmps117
  go_wp2_with fail
  refine (show Calls Tryz.prog 98 _ _ _ from HL8.out).mono ?_
  rintro e w1 ⟨rfl, rfl⟩
  clear HL8
  go_wp2
  go_ret3
  show UnpIs (unp b) _ _ _
  rw [HU.out]
  exact ⟨rfl, Only.refl _ _⟩
 ·have s1 : ¬ (116 : Int) < (s : Int) := by omega
  have s2 : IntKind.i64.wrap (12 + (s : Int)) = 12 + (s : Int) := by rw [IntKind.wrap_i64]; omega
  have s3 : (12 : Int) + (s : Int) ≤ (c : Int) := by omega
  have s4 : (12 : Int) ≤ 12 + (s : Int) := by omega
  have s5 : ((12 : Int) + (s : Int)).toNat = 12 + s := by omega
  have s6 : 12 + s - 12 = s := by omega
  have HU : Hid (unp b = if page x4 ((b.drop 12).take s) = b then some (x4, (b.drop 12).take s) else none) := by
   have := unp_again b hb h.2.2 (by omega)
   rw [← hx4, ← hs] at this
   exact this
  have HD : Hid (BytesAt w (.slice (some ⟨g, o + 12, none⟩) s (c - 12)) ((b.drop 12).take s)) := h.cut 12 s (c - 12) (by omega) (by omega)
  have HDL : Hid (((b.drop 12).take s).length = s) := (by rw [List.length_take, List.length_drop]; omega : _ = _)
  obtain ⟨D, hD⟩ : ∃ D, D = (b.drop 12).take s := ⟨_, rfl⟩
  rw [← hD] at HU HD HDL
  clear hc h hx4 hs hb hlg hD
  go_enter Tryz.func117, Tryz.ntmps117
  go_wp2_with fail
  refine (show Calls Tryz.prog 98 _ _ _ from HL8.out).mono ?_
  rintro e w1 ⟨rfl, rfl⟩
  go_wp2_with fail
  refine (show Calls Tryz.prog 98 _ _ _ from HL4.out).mono ?_
  rintro e w2 ⟨rfl, rfl⟩
  clear HL8 HL4
  go_wp2_with fail
  refine (rpack_ok x4 _ D w2 HD.out (by have := HDL.out; omega) hx32).mono ?_
  rintro e w3 ⟨u3, rfl, hf3, ho3⟩
  have HO3 : Hid (Only (fun _ => False) w2 w3) := ho3
  have HF3 : Hid _ := hf3
  clear hf3 ho3
  go_wp2_with fail
  refine (same_dec u3 _ (page x4 D) b w3 (Fresh.bytes HF3.out) (HBY.out.frame HO3.out)).mono ?_
  rintro e w4 ⟨rfl, ho4⟩
  have HO4 : Hid (Only (fun _ => False) w2 w4) := HO3.out.trans ho4 (fun _ _ e => e)
  clear ho4 HF3 HO3
  by_cases hpg : page x4 D = b
  ·have hdd : decide (page x4 D = b) = true := decide_eq_true hpg
   have HPG : Hid (page x4 D = b) := hpg
   have hD4 := HD.out.frame HO4.out
   have hdl := HDL.out
   obtain ⟨a5, c5, w5, hr5, own5, ho5⟩ := app_copy 37 5 i0 _ 1 Tryz.underlying37 hi0 hz0 hz1 hz2 rfl rfl w4 _ D.length _ hD4.1 (fun j => rfl) hD4.2.1
   rw [← BL_getD] at own5
   have HE : Hid (Fresh w5 w2.heap.size (.slice a5 s c5) D ∧ Only (fun _ => False) w2 w5) := by
    refine ⟨?_, HO4.out.trans ho5 (fun _ _ e => e)⟩
    rw [hdl] at own5
    have own6 : w5.ownsRow w2.heap.size 5 1 (.slice a5 s c5) s (BL D) := by
     refine ⟨own5.1, ?_⟩
     rcases own5.2 with h2 | ⟨g', cap', cur', hv', hb', hr'⟩
     ·exact .inl h2
     ·exact .inr ⟨g', cap', cur', hv', by have := HO4.out.size; omega, hr'⟩
    exact ⟨by rw [hdl]; exact own6, hD4.2⟩
   rw [hdl] at hr5
   have HR5 : Hid _ := hr5
   clear hpg hD4 own5 ho5 hr5 hdl
   rw [hdd]
   clear hdd
   go_wp2_with (at_builtin; go_must (refine wpList_append_run rfl _ _ 37 rfl _ _ (.slice a5 s c5) rfl rfl HR5.out ?_))
   go_ret3
   show UnpIs (unp b) w2 _ _
   rw [HU.out, if_pos HPG.out]
   exact ⟨_, rfl, HE.out⟩
  ·have hdd : decide (page x4 D = b) = false := decide_eq_false hpg
   have HPG : Hid (¬ page x4 D = b) := hpg
   clear hpg
   rw [hdd]
   clear hdd
   go_wp2
   go_ret3
   show UnpIs (unp b) w2 _ _
   rw [HU.out, if_neg HPG.out]
   exact ⟨rfl, HO4.out⟩
def RWIs (w : World) (B r K : Nat) (rv : Value) (rs : List RW) (x : Int × DS) (e : Ending) (w' : World) : Prop :=
 e = .returned (.int .i64 x.1) ∧ ∃ rv' rs', RefAt w' B r K rv' x.2 rs' ∧ Only (refB r K rv rs) w w' ∧ (∀ b, refB r K rv' rs' b → refB r K rv rs b ∨ w.heap.size ≤ b)
theorem bytes_frameB {W W' : World} {g o n c : Nat} {zs : List Nat} {bs : Nat → Prop} (h : BytesAt W (.slice (some ⟨g, o, none⟩) n c) zs) (ho : Only bs W W') (hn : ¬ bs g) : BytesAt W' (.slice (some ⟨g, o, none⟩) n c) zs := by
 refine ⟨?_, h.2⟩
 rcases h.1 with h1 | ⟨ad, c', hv, hkc, hc⟩
 ·exact .inl h1
 ·refine .inr ⟨ad, c', hv, hkc, fun j hj => ?_⟩
  simp only [Value.slice.injEq, Option.some.injEq] at hv
  obtain ⟨rfl, _, rfl⟩ := hv
  have := hc j hj
  rw [Addr.add_mid] at this ⊢
  exact ho.cell this hn
theorem rwrite_in (r K B id : Nat) (P : Nat) (rv v : Value) (rs : List RW) (d : DS) (D : List Nat) (w : World) (h : RefAt w B r K rv d rs) (hB : B ≤ w.heap.size) (hv : BytesAt w v D) (hid : id < 4294967296) (hD : D.length ≤ 116) (hP : P < d.n / 4) (hp : d.pend.length ≤ 10000000000) (hb : ByteD d) (hg : Good d) :
  Calls Tryz.prog 91 #[.pointer (some ⟨r, 0, none⟩), .int .i64 P, .int .u32 id, v] w fun e w' => RWIs w B r K rv rs (d.wr4 P (page id D) 4) e w' := by
 have HR := rcount_any r d.n w h.n2 h.c0
 have HPK := rpack_ok id v D w hv hD hid
 have hpl := page_length id D hD
 have hfacts := wr4_facts d P (page id D) (page_lt id D hv.2.2) hb hg
 have HFA : Hid _ := hfacts
 have n2 := h.n2
 have hlt := h.lt
 obtain ⟨Z, hZ⟩ : ∃ Z, Z = page id D := ⟨_, rfl⟩
 have HLT : Hid _ := hlt
 rw [← hZ] at HPK hpl HFA
 rw [← hZ]
 have HD : Hid (RefAt w B r K rv d rs) := h
 have HPL : Hid (Z.length = 128) := hpl
 have p0 : ¬ (P : Int) < 0 := by omega
 have hP2 : P < 2048 := by omega
 have HPE : Hid (d.pend.length ≤ 10000000000) := hp
 obtain ⟨cn, hcn⟩ : ∃ c, c = d.n / 4 := ⟨_, rfl⟩
 rw [← hcn] at HR hP
 have p1 : ¬ (cn : Int) ≤ (P : Int) := by omega
 clear h hv hfacts hZ hb hg hlt hP hp hcn hpl
 go_enter Tryz.func91, Tryz.ntmps91
 go_wp2_with fail
 refine HR.mono ?_
 rintro e w1 ⟨rfl, rfl⟩
 clear HR
 go_wp2_with fail
 refine HPK.mono ?_
 rintro e w2 ⟨u, rfl, hf, ho2⟩
 clear HPK
 have hby := hf.bytes
 obtain ⟨a, c, rfl, hcap, hcl⟩ := hby.form
 rw [HPL.out] at hby hcap
 rw [HPL.out]
 obtain ⟨g, o, rfl, _⟩ := hcl 0 (by have := HPL.out; omega)
 have hgl := own_lt hf g rfl
 have HBY : Hid (BytesAt w2 (.slice (some ⟨g, o, none⟩) 128 c) Z) := hby
 have HGL : Hid (w1.heap.size ≤ g ∧ g < w2.heap.size) := hgl
 have HO2 : Hid (Only (fun _ => False) w1 w2) := ho2
 have HD2 : Hid (RefAt w2 B r K rv d rs) := HD.out.frame ho2 (fun _ _ e => e)
 clear hf ho2 hby hcl hgl
 go_wp2_with fail
 go_loopw [10, 11] (fun q t wr => ∃ (k j : Nat) (x : Int), k ≤ 4 ∧ j ≤ k ∧ t = .int .i64 k ∧ q = .int .i64 x ∧ (d.wr4 P Z k).1 = x ∧ (∃ rv' rs', RefAt wr B r K rv' (d.wr4 P Z k).2 rs' ∧ (∀ b, refB r K rv' rs' b → refB r K rv rs b ∨ g < b)) ∧ BytesAt wr (.slice (some ⟨g, o, none⟩) 128 c) Z ∧ Only (refB r K rv rs) w1 wr ∧ w2.heap.size ≤ wr.heap.size) (fun _ t _ => 4 - (intOf t).toNat)
 case atStart => exact ⟨0, 0, 0, by omega, by omega, rfl, rfl, rfl, ⟨rv, rs, HD2.out, fun b hb => .inl hb⟩, HBY.out, HO2.out.mono (fun _ _ e => e.elim), Nat.le_refl _⟩
 case round =>
  obtain ⟨k, j, x0, hk, hj, rfl, rfl, h0, ⟨rv', rs', hd, hown⟩, hbl, ho, hsz⟩ := hrel
  obtain ⟨w3, rfl⟩ : ∃ w3, w3 = wr := ⟨_, rfl⟩
  by_cases hlt : k < 4 ∧ x0 = 0
  ·obtain ⟨hlt, rfl⟩ := hlt
   have k1 : (k : Int) < 4 := by omega
   have m1 : IntKind.i64.wrap (4 * (P : Int)) = 4 * (P : Int) := by rw [IntKind.wrap_i64]; omega
   have m2 : IntKind.i64.wrap (4 * (P : Int) + (k : Int)) = 4 * (P : Int) + (k : Int) := by rw [IntKind.wrap_i64]; omega
   have m3 : IntKind.i64.wrap (32 * (k : Int)) = 32 * (k : Int) := by rw [IntKind.wrap_i64]; omega
   obtain ⟨oo, ho'⟩ : ∃ o, o = 32 * k := ⟨_, rfl⟩
   have m4 : 32 * (k : Int) = (oo : Int) := by omega
   rw [m4] at m3
   have m6 : IntKind.i64.wrap ((oo : Int) + 32) = (oo : Int) + 32 := by rw [IntKind.wrap_i64]; omega
   have m7 : (oo : Int) + 32 ≤ (c : Int) := by omega
   have m8 : (0 : Int) ≤ (oo : Int) := by omega
   have m9 : (oo : Int) ≤ (oo : Int) + 32 := by omega
   have m10 : ((oo : Int) + 32).toNat = oo + 32 := by omega
   have m11 : oo + 32 - oo = 32 := by omega
   have m12 : ¬ c = oo := by omega
   obtain ⟨q, hq⟩ : ∃ q, q = 4 * P + k := ⟨_, rfl⟩
   have m5 : 4 * (P : Int) + (k : Int) = (q : Int) := by omega
   rw [m5] at m2
   have hbs := hbl.cut oo 32 (c - oo) (by have := HPL.out; omega) (by omega)
   have e32 : ((Z.drop oo).take 32).length = 32 := by rw [List.length_take, List.length_drop, HPL.out]; omega
   have hrow := row_of_bytes hbs (secF Z k) (fun j hj => by rw [ho']; rfl)
   rw [e32] at hrow
   obtain ⟨f1, f2, f3, f4⟩ := HFA.out k
   have HW : Hid (Calls Tryz.prog 42 #[.pointer (some ⟨r, 0, none⟩), .int .i64 q, .slice (some ⟨g, o + oo, none⟩) 32 (c - oo)] w3 fun e w' => RWIs w3 B r K rv' rs' ((d.wr4 P Z k).2.write q (secF Z k) 32) e w') :=
    rput_all hd _ 32 _ q (secF Z k) hrow (by have := ho.size; omega) (by have := HPE.out; omega) (by omega)
   have HNE : Hid (d.wr4 P Z (k + 1) = (d.wr4 P Z k).2.write q (secF Z k) 32) := by
    show _ = _
    simp only [DS.wr4]
    rw [if_pos h0, hq]
   have hdl := hd.lt
   have HEND : Hid (∀ e w', RWIs w3 B r K rv' rs' ((d.wr4 P Z k).2.write q (secF Z k) 32) e w' → (∃ rv2 rs2, RefAt w' B r K rv2 (d.wr4 P Z (k + 1)).2 rs2 ∧ (∀ b, refB r K rv2 rs2 b → refB r K rv rs b ∨ g < b)) ∧ BytesAt w' (.slice (some ⟨g, o, none⟩) 128 c) Z ∧ Only (refB r K rv rs) w1 w' ∧ w2.heap.size ≤ w'.heap.size) := by
    rintro e w' ⟨he, rv2, rs2, d2, o2, hb2⟩
    have hgn : ¬ refB r K rv' rs' g := by
     intro e
     rcases hown g e with h1 | h1
     ·have := (HLT.out g h1).2; have := HGL.out; omega
     ·omega
    refine ⟨⟨rv2, rs2, by rw [HNE.out]; exact d2, fun b hb => ?_⟩, bytes_frameB hbl o2 hgn, ho.trans o2 (fun i hi e => ?_), Nat.le_trans hsz o2.size⟩
    ·rcases hb2 b hb with h1 | h1
     ·exact hown b h1
     ·have := HGL.out; exact .inr (by omega)
    ·rcases hown i e with h1 | h1
     ·exact h1
     ·have := HGL.out; omega
   obtain ⟨x, hx⟩ : ∃ x, x = ((d.wr4 P Z k).2.write q (secF Z k) 32).1 := ⟨_, rfl⟩
   have HX : Hid (x = ((d.wr4 P Z k).2.write q (secF Z k) 32).1) := hx
   clear h0 hd hown hbl ho hbs e32 hrow f1 f2 f3 f4 hdl ho' hq hx hsz
   go_wp2_with fail
   refine (show Calls Tryz.prog 42 _ _ _ from HW.out).mono ?_
   intro e w5 hWI
   have HE5 : Hid _ := HEND.out e w5 hWI
   obtain ⟨rfl, _⟩ := hWI
   rw [← HX.out]
   clear HW HEND
   go_wp2
   go_roundw
   case rel => exact ⟨k + 1, 0, x, by omega, by omega, by go_num, rfl, by rw [HNE.out, ← HX.out], HE5.out.1, HE5.out.2.1, HE5.out.2.2.1, HE5.out.2.2.2⟩
   case measure => simp [intOf]; omega
  ·have HH : Hid (RWIs w1 B r K rv rs (d.wr4 P Z 4) (.returned (.int .i64 x0)) w3) := by
    have e4 : d.wr4 P Z 4 = d.wr4 P Z k := by
     by_cases h4 : k = 4
     ·rw [h4]
     ·have hx0 : x0 ≠ 0 := fun e => hlt ⟨by omega, e⟩
      have stop : ∀ j, d.wr4 P Z (k + j) = d.wr4 P Z k := by
       intro j
       induction j with
       | zero => rfl
       | succ j ih =>
         show (if (d.wr4 P Z (k + j)).1 = 0 then _ else d.wr4 P Z (k + j)) = _
         rw [ih, if_neg (by rw [h0]; exact hx0)]
      have := stop (4 - k)
      rwa [show k + (4 - k) = 4 by omega] at this
    rw [e4]
    exact ⟨by rw [h0], rv', rs', hd, ho, fun b hb => (hown b hb).imp (fun h => h) (fun h => by have := HGL.out; omega)⟩
   clear h0 hd hown hbl ho hsz
   by_cases h4 : k < 4
   ·have k1 : (k : Int) < 4 := by omega
    have hx0 : (x0 == 0) = false := by simp; exact fun e => hlt ⟨h4, e⟩
    clear hlt h4
    go_wp2
    go_ret
    exact HH.out
   ·have k1 : ¬ (k : Int) < 4 := by omega
    clear hlt h4
    go_wp2
    go_ret
    exact HH.out
theorem rwrite_out (r n : Nat) (P i : Int) (v : Value) (w : World) (hn : n ≤ 8192) (h0 : w.cell? ⟨r, 0, none⟩ = some (.int .i64 n)) (hP : P < 0 ∨ ((n / 4 : Nat) : Int) ≤ P) :
  Calls Tryz.prog 91 #[.pointer (some ⟨r, 0, none⟩), .int .i64 P, .int .u32 i, v] w fun e w' => e = .returned (.int .i64 4) ∧ w' = w := by
 have HR := rcount_any r n w hn h0
 obtain ⟨cn, hcn⟩ : ∃ c, c = n / 4 := ⟨_, rfl⟩
 rw [← hcn] at HR hP
 by_cases h : P < 0
 ·clear h0 hP hcn HR
  go_enter Tryz.func91, Tryz.ntmps91
  go_wp2
  go_ret
  exact ⟨rfl, rfl⟩
 ·have h2 : (cn : Int) ≤ P := by omega
  clear h0 hP hcn
  go_enter Tryz.func91, Tryz.ntmps91
  go_wp2_with fail
  refine HR.mono ?_
  rintro e w1 ⟨rfl, rfl⟩
  go_wp2
  go_ret
  exact ⟨rfl, rfl⟩
theorem rwrite_large (r n m cc : Nat) (a : Option Addr) (P : Nat) (i : Int) (w : World) (hn : n ≤ 8192) (h0 : w.cell? ⟨r, 0, none⟩ = some (.int .i64 n)) (hP : P < n / 4) (hm : 116 < m) :
  Calls Tryz.prog 91 #[.pointer (some ⟨r, 0, none⟩), .int .i64 P, .int .u32 i, .slice a m cc] w fun e w' => e = .returned (.int .i64 11) ∧ w' = w := by
 have HR := rcount_any r n w hn h0
 have HP := rpack_large i a m cc w hm
 obtain ⟨cn, hcn⟩ : ∃ c, c = n / 4 := ⟨_, rfl⟩
 rw [← hcn] at HR hP
 have p0 : ¬ (P : Int) < 0 := by omega
 have p1 : ¬ (cn : Int) ≤ (P : Int) := by omega
 clear h0 hP hcn
 go_enter Tryz.func91, Tryz.ntmps91
 go_wp2_with fail
 refine HR.mono ?_
 rintro e w1 ⟨rfl, rfl⟩
 go_wp2_with fail
 refine HP.mono ?_
 rintro e w2 ⟨rfl, rfl⟩
 go_wp2
 refine wp_loop_rounds 1 ?_; rw [rounds_succ]
 go_wp2
 go_ret
 exact ⟨rfl, rfl⟩
theorem rwrite_all (r K B : Nat) (P : Int) (id : Nat) (rv v : Value) (rs : List RW) (d : DS) (D : List Nat) (w : World) (h : RefAt w B r K rv d rs) (hB : B ≤ w.heap.size) (hv : BytesAt w v D) (hid : id < 4294967296) (hp : d.pend.length ≤ 10000000000) (hb : ByteD d) (hg : Good d) :
  Calls Tryz.prog 91 #[.pointer (some ⟨r, 0, none⟩), .int .i64 P, .int .u32 id, v] w fun e w' => RWIs w B r K rv rs (d.wpage P id D) e w' := by
 by_cases h1 : P < 0 ∨ ((d.n / 4 : Nat) : Int) ≤ P
 ·have e : d.wpage P id D = (4, d) := by unfold DS.wpage; rw [if_pos h1]
  rw [e]
  refine (rwrite_out r d.n P id v w h.n2 h.c0 h1).mono ?_
  rintro e w' ⟨rfl, rfl⟩
  exact ⟨rfl, rv, rs, h, Only.refl _ _, fun b hb => .inl hb⟩
 ·obtain ⟨Q, rfl⟩ : ∃ Q : Nat, P = Q := ⟨P.toNat, by omega⟩
  by_cases h2 : 116 < D.length
  ·have e : d.wpage Q id D = (11, d) := by unfold DS.wpage; rw [if_neg h1, if_pos h2]
   rw [e]
   obtain ⟨a, c, rfl, _, _⟩ := hv.form
   refine (rwrite_large r d.n D.length c a Q id w h.n2 h.c0 (by omega) h2).mono ?_
   rintro e w' ⟨rfl, rfl⟩
   exact ⟨rfl, rv, rs, h, Only.refl _ _, fun b hb => .inl hb⟩
  ·have e : d.wpage Q id D = d.wr4 Q (page id D) 4 := by unfold DS.wpage; rw [if_neg h1, if_neg h2]; rfl
   rw [e]
   exact rwrite_in r K B id Q rv v rs d D w h hB hv hid (by omega) (by omega) hp hb hg
end Go.Proofs.YtlcglapcmdpkfaaGreat
