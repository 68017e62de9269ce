import Derived.Test.YtlcglapcmdpkfaaGreatD27
import Derived.Deep.RegionLaw
namespace Go.Proofs.YtlcglapcmdpkfaaGreat
open Go.RowKit
set_option linter.unusedSimpArgs false
set_option linter.unusedVariables false
theorem info83 : (Tryz.prog.info? 69).map (fun i => (i.zero, i.size, i.bytes)) = some (some (.agg #[.int .i64 0, .slice none 0 0]), 2, 32) := by kernel_rfl
theorem ref_put {w w3 : World} {B r K : Nat} {pv : Value} {d : DS} {rs : List RW} (h : RefAt w B r K pv d rs) (k : Nat) (hk : k < d.n) (f : Nat → Int) (g cap : Nat) (v3 : Value) (own3 : w3.ownsRow B 69 2 v3 (rs.length + 1) (refL rs ++ [.int .i64 k, .slice (some ⟨g, 0, none⟩) 32 cap]))
  (o3 : Only (fun b => pv.ownBlock = some b) w w3) (hg : w3.rangeAt g 0 (secL f)) (hg1 : w.heap.size ≤ g) (hv : ∀ b, v3.ownBlock = some b → (pv.ownBlock = some b ∨ w.heap.size ≤ b) ∧ b ≠ g) (hB : B ≤ w.heap.size) :
  RefAt (w3.setCell ⟨r, 2, none⟩ v3) B r K v3 { d with sec := upd d.sec k f, pend := d.pend ++ [⟨k, d.sec k, f⟩] } (rs ++ [⟨⟨k, d.sec k, f⟩, g, cap⟩]) ∧ Only (fun b => b = r ∨ pv.ownBlock = some b) w (w3.setCell ⟨r, 2, none⟩ v3) := by
 have hrl := (h.lt r (.inl rfl)).2
 have hKl := (h.lt K (.inr (.inl rfl))).2
 have oP : Only (fun b => b = r) w3 (w3.setCell ⟨r, 2, none⟩ v3) := (Only.refl (fun b => b = r) w3).setCell _ _ (fun _ => rfl)
 have hKr : K ≠ r := Ne.symm h.rK
 have v3r : v3.ownBlock ≠ some r := fun e => by
  rcases (hv r e).1 with e | e
  ·exact h.hr e
  ·omega
 have v3K : v3.ownBlock ≠ some K := fun e => by
  rcases (hv K e).1 with e | e
  ·exact h.hK e
  ·omega
 refine ⟨{ rB := h.rB, KB := h.KB, rK := h.rK
           c0 := by rw [World.cell?_setCell_other _ _ _ _ (by simp)]; exact o3.cell h.c0 h.hr
           c1 := by rw [World.cell?_setCell_other _ _ _ _ (by simp)]; exact o3.cell h.c1 h.hr
           c2 := World.cell?_setCell_same _ _ _ (o3.cell h.c2 h.hr)
           c3 := by rw [World.cell?_setCell_other _ _ _ _ (by simp)]; exact o3.cell h.c3 h.hr
           f2 := by simpa using (o3.frozen (World.block_lt_of_cell? w _ h.c2) h.hr).trans h.f2
           f3 := by simpa using (o3.frozen (World.block_lt_of_cell? w _ h.c3) h.hr).trans h.f3
           kept := by
            simp only [undoW_write]
            exact oP.range (o3.range h.kept h.hK) hKr
           kth := oP.there (o3.there h.kth h.hK) hKr
           own := by
            have := oP.owns own3 (fun b hb e => v3r (by rw [hb, e]))
            rw [List.length_append, refL_snoc]
            exact this
           hr := v3r, hK := v3K
           tie := by rw [List.map_append, h.tie]; rfl
           at_ := fun x hx => by
            rcases List.mem_append.1 hx with hx | hx
            ·obtain ⟨h1, h2, h3, h4, h5⟩ := h.at_ x hx
             have hxl := (h.lt x.g (.inr (.inr (.inr ⟨x, hx, rfl⟩)))).2
             refine ⟨h1, oP.range (o3.range h2 h5) h3, h3, h4, fun e => ?_⟩
             rcases (hv _ e).1 with e | e
             ·exact h5 e
             ·omega
            ·obtain rfl : x = ⟨⟨k, d.sec k, f⟩, g, cap⟩ := by simpa using hx
             exact ⟨show B ≤ g by omega, oP.range hg (show ¬ g = r by omega), show g ≠ r by omega, show g ≠ K by omega, fun e => (hv _ e).2 rfl⟩
           bd := fun x hx => by
            rcases List.mem_append.1 hx with hx | hx
            ·exact h.bd x hx
            ·obtain rfl : x = ⟨k, d.sec k, f⟩ := by simpa using hx
             exact hk
           n1 := h.n1, n2 := h.n2, l1 := h.l1, l2 := h.l2 }, (o3.mono (fun _ _ e => .inr e)).trans oP (fun _ _ e => .inl e)⟩
set_option maxHeartbeats 400000 in
theorem rput_len (r : Nat) (k : Int) (a : Option Addr) (m c : Nat) (w : World) (hm : m ≠ 32) :
  Calls Tryz.prog 42 #[.pointer (some ⟨r, 0, none⟩), .int .i64 k, .slice a m c] w fun e w' => e = .returned (.int .i64 2) ∧ w' = w := by
 have hm' : ¬ (m : Int) = 32 := by omega
 go_enter Tryz.func42, Tryz.ntmps42
 go_wp2
 go_ret
 exact ⟨rfl, rfl⟩
set_option maxHeartbeats 400000 in
theorem rput_dead (r : Nat) (k : Int) (a : Option Addr) (c : Nat) (w : World) (h3 : w.cell? ⟨r, 3, none⟩ = some (.int .i64 0)) :
  Calls Tryz.prog 42 #[.pointer (some ⟨r, 0, none⟩), .int .i64 k, .slice a 32 c] w fun e w' => e = .returned (.int .i64 3) ∧ w' = w := by
 go_enter Tryz.func42, Tryz.ntmps42
 go_wp2
 go_ret
 exact ⟨rfl, rfl⟩
set_option maxHeartbeats 400000 in
theorem rput_out (r n : Nat) (l k : Int) (a : Option Addr) (c : Nat) (w : World) (h0 : w.cell? ⟨r, 0, none⟩ = some (.int .i64 n)) (h3 : w.cell? ⟨r, 3, none⟩ = some (.int .i64 l)) (hl : (l == 0) = false) (hk : k < 0 ∨ n ≤ k) :
  Calls Tryz.prog 42 #[.pointer (some ⟨r, 0, none⟩), .int .i64 k, .slice a 32 c] w fun e w' => e = .returned (.int .i64 4) ∧ w' = w := by
 by_cases h : k < 0
 ·go_enter Tryz.func42, Tryz.ntmps42
  go_wp2
  go_ret
  exact ⟨rfl, rfl⟩
 ·have h' : (n : Int) ≤ k := by omega
  go_enter Tryz.func42, Tryz.ntmps42
  go_wp2
  go_ret
  exact ⟨rfl, rfl⟩
set_option maxRecDepth 100000 in
set_option maxHeartbeats 2000000 in
theorem rput_any {w : World} {B r K : Nat} {pv : Value} {d : DS} {rs : List RW} (h : RefAt w B r K pv d rs) (hl : d.life ≠ 0) (hlen : (d.pend.length + 1) * 72 ≤ 140737488355328) (k : Nat) (hk : k < d.n) (f : Nat → Int) (ga go c : Nat) (hf : w.rangeAt ga go (secL f)) (hB : B ≤ w.heap.size) :
  Calls Tryz.prog 42 #[.pointer (some ⟨r, 0, none⟩), .int .i64 k, .slice (some ⟨ga, go, none⟩) 32 c] w fun e w' => e = .returned (.int .i64 0) ∧ Hid (∃ pv' rs', RefAt w' B r K pv' { d with sec := upd d.sec k f, pend := d.pend ++ [⟨k, d.sec k, f⟩], life := aged d.life } rs' ∧ Only (fun b => b = r ∨ pv.ownBlock = some b) w w' ∧ (∀ b, refB r K pv' rs' b → refB r K pv rs b ∨ w.heap.size ≤ b)) := by
 obtain ⟨a, ca, hpv⟩ := h.form
 obtain ⟨i83, hi83, hz0, hz1, hz2⟩ := info_parts info83
 have hrl := h.len
 have oD : Only (fun _ => False) w w.drew := (Only.refl _ w).drew
 obtain ⟨g, cap, w2, hr1, hg, hg1, hg2, o2⟩ := copy32 w.drew ga go c f (oD.range hf (fun e => e))
 have o2' : Only (fun _ => False) w w2 := oD.trans o2 (fun _ _ e => e)
 obtain ⟨wL, hwL⟩ : ∃ x, x = w2.alloc (.cells #[.int .i64 k, .slice (some ⟨g, 0, none⟩) 32 cap] 69) := ⟨_, rfl⟩
 have oL : Only (fun _ => False) w2 wL := by rw [hwL]; exact (Only.refl _ w2).alloc _
 have oL' := o2'.trans oL (fun _ _ e => e)
 have hnew : ∀ j u, [Value.int .i64 k, .slice (some ⟨g, 0, none⟩) 32 cap][j]? = some u → wL.cell? ((⟨w2.heap.size, 0, none⟩ : Addr).add j) = some u := by rw [hwL]; exact World.news_of_block (heap_alloc_new w2 _)
 have hsL : wL.heap.size = w2.heap.size + 1 := by rw [hwL]; simp
 have key := fun ty => run_append_own_at (P := Tryz.prog) wL B 55 ty 69 i83 _ 2 32 Tryz.underlying55 hi83 hz0 hz1 hz2 rfl (by omega) pv rs.length (refL rs) (oL'.owns h.own (fun _ _ e => e)) ⟨w2.heap.size, 0, none⟩ 1 1 [.int .i64 k, .slice (some ⟨g, 0, none⟩) 32 cap] rfl hnew (by simp [Value.oneCell']) (by unfold maxLen; omega) (by omega) (by have := oL'.size; omega)
 obtain ⟨v3, w3, hr2, own3, hg3, _, hb3⟩ := key 0
 replace hr2 : ∀ ty, (Builtin.append_ #[55, 55] ty #[pv, .slice (some ⟨w2.heap.size, 0, none⟩) 1 1]).run Tryz.prog wL = .ok v3 w3 := fun ty => by rw [← hr2]; rfl
 clear key
 have o3 : Only (fun b => pv.ownBlock = some b) w w3 := (oL'.mono (fun _ _ e => e.elim)).grown hg3 (fun b hb _ => hb)
 have hgs : w.heap.size ≤ g := hg1
 have hpl : ∀ b, pv.ownBlock = some b → b < w.heap.size := fun b hb => (h.own.lt b hb).2
 have hg3r : w3.rangeAt g 0 (secL f) := ((Only.refl (fun b => pv.ownBlock = some b) wL).grown hg3 (fun b hb _ => hb)).range (oL.range hg (fun e => e)) (fun e => by have := hpl g e; omega)
 have hs2 := o2'.size
 have hv3 : ∀ b, v3.ownBlock = some b → (pv.ownBlock = some b ∨ w.heap.size ≤ b) ∧ b ≠ g := fun b hb => by
  rcases hb3 with e | e
  ·rw [e] at hb
   exact ⟨.inl hb, by have := hpl b hb; omega⟩
  ·rw [e] at hb
   simp at hb
   exact ⟨.inr (by omega), by omega⟩
 obtain ⟨rp, op⟩ := ref_put h k hk f g cap v3 own3 o3 hg3r hgs hv3 hB
 have hblk : ∀ b, refB r K v3 (rs ++ [⟨⟨k, d.sec k, f⟩, g, cap⟩]) b → refB r K pv rs b ∨ w.heap.size ≤ b := by
  rintro b (rfl | rfl | hb | ⟨x, hx, rfl⟩)
  ·exact .inl (.inl rfl)
  ·exact .inl (.inr (.inl rfl))
  ·rcases (hv3 b hb).1 with e | e
   ·exact .inl (.inr (.inr (.inl e)))
   ·exact .inr e
  ·rcases List.mem_append.1 hx with hx | hx
   ·exact .inl (.inr (.inr (.inr ⟨x, hx, rfl⟩)))
   ·obtain rfl : x = ⟨⟨k, d.sec k, f⟩, g, cap⟩ := by simpa using hx
    exact .inr hgs
 have HF1 : Hid (0 < d.life → ∃ pv' rs', RefAt ((w3.setCell ⟨r, 2, none⟩ v3).setCell ⟨r, 3, none⟩ (.int .i64 (d.life - 1))) B r K pv' { d with sec := upd d.sec k f, pend := d.pend ++ [⟨k, d.sec k, f⟩], life := aged d.life } rs' ∧ Only (fun b => b = r ∨ pv.ownBlock = some b) w ((w3.setCell ⟨r, 2, none⟩ v3).setCell ⟨r, 3, none⟩ (.int .i64 (d.life - 1))) ∧ (∀ b, refB r K pv' rs' b → refB r K pv rs b ∨ w.heap.size ≤ b)) := fun hl0 => by
  have hag : aged d.life = d.life - 1 := by simp [aged]; omega
  obtain ⟨rl, ol⟩ := ref_life rp (d.life - 1) (by omega) (by have := h.l2; omega)
  rw [hag]
  exact ⟨v3, _, rl, op.trans ol (fun _ _ e => .inl e), hblk⟩
 have HF2 : Hid (d.life = -1 → ∃ pv' rs', RefAt (w3.setCell ⟨r, 2, none⟩ v3) B r K pv' { d with sec := upd d.sec k f, pend := d.pend ++ [⟨k, d.sec k, f⟩], life := aged d.life } rs' ∧ Only (fun b => b = r ∨ pv.ownBlock = some b) w (w3.setCell ⟨r, 2, none⟩ v3) ∧ (∀ b, refB r K pv' rs' b → refB r K pv rs b ∨ w.heap.size ≤ b)) := fun hl0 => by
  have hag : aged d.life = d.life := by simp [aged, hl0]
  rw [hag]
  exact ⟨v3, _, rp, op, hblk⟩
 have HR1 : Hid _ := hr1
 have HR2 : Hid _ := hr2
 obtain ⟨a3, c3, hv3s⟩ := ownsRow_slice own3
 have c0 := h.c0
 have c2 := h.c2
 have c3' := h.c3
 have f2 := h.f2
 have f3 := h.f3
 have b2 : (w.alloc (.cells #[] 5)).cell? ⟨r, 2, none⟩ = some pv := ((Only.refl (fun _ => False) w).alloc _).cell c2 (fun e => e)
 have d2 : w2.cell? ⟨r, 2, none⟩ = some pv := o2'.cell c2 (fun e => e)
 have e2 : (w2.alloc (.cells #[.int .i64 k, .slice (some ⟨g, 0, none⟩) 32 cap] 69)).cell? ⟨r, 2, none⟩ = some pv := by rw [← hwL]; exact oL'.cell c2 (fun e => e)
 have g2 : w3.cell? ⟨r, 2, none⟩ = some pv := o3.cell c2 h.hr
 have g3 : w3.cell? ⟨r, 3, none⟩ = some (.int .i64 d.life) := o3.cell c3' h.hr
 have gf2 : w3.frozen? ⟨r, 2, none⟩ = false := (o3.frozen (World.block_lt_of_cell? w _ c2) h.hr).trans f2
 have gf3 : w3.frozen? ⟨r, 3, none⟩ = false := (o3.frozen (World.block_lt_of_cell? w _ c3') h.hr).trans f3
 have hl1 := h.l1
 have hl2 := h.l2
 have hlz : (d.life == 0) = false := by simpa using hl
 have k0 : ¬ (k : Int) < 0 := by omega
 have k1 : ¬ (d.n : Int) ≤ (k : Int) := by omega
 subst hpv hv3s
 rw [hwL] at HR2
 have hem := empty23
 clear rp op
 clear h hf hr1 hr2 hg hwL oL oL' o2 o2' oD hnew hg3 own3 o3 hg3r hv3 hb3 hblk hpl hrl hsL
 by_cases hl0 : 0 < d.life
 ·go_enter Tryz.func42, Tryz.ntmps42
  go_wp2_with fail
  go_region_law (first | (refine step_append_run (by rfl) _ _ 37 (by rfl) _ _ (.slice (some ⟨g, 0, none⟩) 32 cap) (by rfl) (by rfl) HR1.out ?_) | (refine step_append_run (by rfl) _ _ 55 (by rfl) _ _ (.slice a3 (rs.length + 1) c3) (by rfl) (by rfl) HR2.out ?_))
  all_goals (go_wp2; go_ret; exact ⟨rfl, HF1.out hl0⟩)
 ·have hl9 : Hid (d.life = -1) := by show d.life = -1; omega
  go_enter Tryz.func42, Tryz.ntmps42
  go_wp2_with fail
  go_region_law (first | (refine step_append_run (by rfl) _ _ 37 (by rfl) _ _ (.slice (some ⟨g, 0, none⟩) 32 cap) (by rfl) (by rfl) HR1.out ?_) | (refine step_append_run (by rfl) _ _ 55 (by rfl) _ _ (.slice a3 (rs.length + 1) c3) (by rfl) (by rfl) HR2.out ?_))
  all_goals (go_wp2; go_ret; exact ⟨rfl, HF2.out hl9.out⟩)
end Go.Proofs.YtlcglapcmdpkfaaGreat
