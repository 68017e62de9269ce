import Derived.Test.YtlcglapcmdpkfaaGreatD24
namespace Go.Proofs.YtlcglapcmdpkfaaGreat
open Go.RowKit
set_option linter.unusedSimpArgs false
set_option linter.unusedVariables false
theorem ref_end {w w1 w' : World} {B r K : Nat} {pv : Value} {d : DS} {rs : List RW} (h : RefAt w B r K pv d rs) (s : Nat → Nat → Int) (l : Int) (hl1 : -1 ≤ l) (hl2 : l ≤ 9223372036854775807) (o : Only (fun b => b = K) w w1) (hk : w1.rangeAt K 0 (allL d.n s)) (ht : w1.there K 0 (d.n * 32))
  (o2 : Only (fun b => b = r) w1 w') (e0 : ∀ v, w1.cell? ⟨r, 0, none⟩ = some v → w'.cell? ⟨r, 0, none⟩ = some v) (e1 : ∀ v, w1.cell? ⟨r, 1, none⟩ = some v → w'.cell? ⟨r, 1, none⟩ = some v) (e2 : w'.cell? ⟨r, 2, none⟩ = some (.slice none 0 0)) (e3 : w'.cell? ⟨r, 3, none⟩ = some (.int .i64 l)) (ff : ∀ a, w'.frozen? a = w1.frozen? a) :
  RefAt w' B r K (.slice none 0 0) ⟨d.n, s, [], l⟩ [] ∧ Only (fun b => b = r ∨ b = K) w w' := by
 have hKr : K ≠ r := Ne.symm h.rK
 refine ⟨{ rB := h.rB, KB := h.KB, rK := h.rK, c0 := e0 _ (o.cell h.c0 h.rK), c1 := e1 _ (o.cell h.c1 h.rK), c2 := e2, c3 := e3,
           f2 := by rw [ff, o.frozen (World.block_lt_of_cell? w _ h.c2) h.rK]; exact h.f2
           f3 := by rw [ff, o.frozen (World.block_lt_of_cell? w _ h.c3) h.rK]; exact h.f3
           kept := o2.range hk hKr, kth := o2.there ht hKr, own := World.ownsRow_nil w' _ 69 2, hr := by simp [Value.ownBlock], hK := by simp [Value.ownBlock], tie := rfl,
           at_ := fun x hx => by cases hx
           bd := fun x hx => by cases hx
           n1 := h.n1, n2 := h.n2, l1 := hl1, l2 := hl2 }, (o.mono (fun _ _ e => .inr e)).trans o2 (fun _ _ e => .inl e)⟩
theorem ref_life {w : World} {B r K : Nat} {pv : Value} {d : DS} {rs : List RW} (h : RefAt w B r K pv d rs) (l : Int) (hl1 : -1 ≤ l) (hl2 : l ≤ 9223372036854775807) :
  RefAt (w.setCell ⟨r, 3, none⟩ (.int .i64 l)) B r K pv { d with life := l } rs ∧ Only (fun b => b = r) w (w.setCell ⟨r, 3, none⟩ (.int .i64 l)) := by
 have oP : Only (fun b => b = r) w (w.setCell ⟨r, 3, none⟩ (.int .i64 l)) := (Only.refl (fun b => b = r) w).setCell _ _ (fun _ => rfl)
 have hKr : K ≠ r := Ne.symm h.rK
 refine ⟨{ rB := h.rB, KB := h.KB, rK := h.rK
           c0 := by rw [World.cell?_setCell_other _ _ _ _ (by simp)]; exact h.c0
           c1 := by rw [World.cell?_setCell_other _ _ _ _ (by simp)]; exact h.c1
           c2 := by rw [World.cell?_setCell_other _ _ _ _ (by simp)]; exact h.c2
           c3 := World.cell?_setCell_same _ _ _ h.c3
           f2 := by simpa using h.f2
           f3 := by simpa using h.f3
           kept := oP.range h.kept hKr, kth := oP.there h.kth hKr, own := oP.owns h.own (fun k hk e => h.hr (by rw [hk, e])), hr := h.hr, hK := h.hK, tie := h.tie,
           at_ := fun x hx => by obtain ⟨h1, h2, h3, h4⟩ := h.at_ x hx; exact ⟨h1, oP.range h2 h3, h3, h4⟩
           bd := h.bd, n1 := h.n1, n2 := h.n2, l1 := hl1, l2 := hl2 }, oP⟩
set_option maxHeartbeats 400000 in
theorem rlive_bad (r : Nat) (n : Int) (w : World) (hn : n < -1) :
  Calls Tryz.prog 39 #[.pointer (some ⟨r, 0, none⟩), .int .i64 n] w fun e w' => e = .returned (.int .i64 2) ∧ w' = w := by
 go_enter Tryz.func39, Tryz.ntmps39
 go_wp2
 go_ret
 exact ⟨rfl, rfl⟩
set_option maxHeartbeats 400000 in
theorem rlive_core (r : Nat) (n : Int) (v : Value) (w : World) (hn : ¬ n < -1) (h3 : w.cell? ⟨r, 3, none⟩ = some v) (hf : w.frozen? ⟨r, 3, none⟩ = false) :
  Calls Tryz.prog 39 #[.pointer (some ⟨r, 0, none⟩), .int .i64 n] w fun e w' => e = .returned (.int .i64 0) ∧ w' = w.setCell ⟨r, 3, none⟩ (.int .i64 n) := by
 go_enter Tryz.func39, Tryz.ntmps39
 go_wp2
 go_ret
 exact ⟨rfl, rfl⟩
theorem rlive_any {w : World} {B r K : Nat} {pv : Value} {d : DS} {rs : List RW} (h : RefAt w B r K pv d rs) (n : Int) (hl1 : -1 ≤ n) (hl2 : n ≤ 9223372036854775807) :
  Calls Tryz.prog 39 #[.pointer (some ⟨r, 0, none⟩), .int .i64 n] w fun e w' => e = .returned (.int .i64 0) ∧ RefAt w' B r K pv { d with life := n } rs ∧ Only (fun b => b = r) w w' := by
 refine (rlive_core r n _ w (by omega) h.c3 h.f3).mono ?_
 rintro e w' ⟨rfl, rfl⟩
 exact ⟨rfl, ref_life h n hl1 hl2⟩
theorem allL_mix (n : Nat) (s : Nat → Nat → Int) (k : Nat) (f g : Nat → Int) : allL n (upd s k (mix 32 f g)) = allL n (upd s k f) := by
 refine allL_congr n _ _ (fun i _ j hj => ?_)
 simp only [upd]
 split
 ·simp [mix, hj]
 ·rfl
set_option maxHeartbeats 400000 in
theorem rbarrier_dead (r : Nat) (w : World) (h3 : w.cell? ⟨r, 3, none⟩ = some (.int .i64 0)) :
  Calls Tryz.prog 72 #[.pointer (some ⟨r, 0, none⟩)] w fun e w' => e = .returned (.int .i64 3) ∧ w' = w := by
 go_enter Tryz.func72, Tryz.ntmps72
 go_wp2
 go_ret
 exact ⟨rfl, rfl⟩
set_option maxRecDepth 100000 in
set_option maxHeartbeats 1000000 in
theorem rbarrier_any {w : World} {B r K : Nat} {pv : Value} {d : DS} {rs : List RW} (h : RefAt w B r K pv d rs) (hg : Good d) (hl : d.life ≠ 0) (hlen : d.pend.length ≤ 140737488351232) :
  Calls Tryz.prog 72 #[.pointer (some ⟨r, 0, none⟩)] w fun e w' => e = .returned (.int .i64 0) ∧ RefAt w' B r K (.slice none 0 0) { d with pend := [], life := aged d.life } [] ∧ Only (fun b => b = r ∨ b = K) w w' := by
 obtain ⟨a, c, hpv⟩ := h.form
 subst hpv
 have HR : Hid (RefAt w B r K (.slice a rs.length c) d rs) := h
 have HG : Hid (Good d) := hg
 have hl1 := h.l1
 have hl2 := h.l2
 have c2 := h.c2
 have c3 := h.c3
 have f2 := h.f2
 have f3 := h.f3
 have hrl := h.len
 have hlz : (d.life == 0) = false := by simpa using hl
 obtain ⟨m, hm⟩ : ∃ m, m = rs.length := ⟨_, rfl⟩
 have hm2 : m ≤ 140737488351232 := by omega
 have HM : Hid (m = rs.length) := hm
 rw [← hm] at c2
 have hrK := h.rK
 clear h hg
 have fin : Hid (∀ w1, Only (fun b => b = K) w w1 → w1.rangeAt K 0 (allL d.n (doAll (d.pend.take m) (undoW d.pend d.sec))) → w1.rangeAt K 0 (allL d.n d.sec)) := fun w1 _ hk => by
  have e : d.pend.take m = d.pend := List.take_of_length_le (by rw [HM.out]; omega)
  rw [e, HG.out] at hk
  exact hk
 go_enter Tryz.func72, Tryz.ntmps72
 go_wp2_with fail
 go_loopw [3] (fun t wr => ∃ i : Nat, i ≤ m ∧ t = .int .i64 i ∧ wr.rangeAt K 0 (allL d.n (doAll (d.pend.take i) (undoW d.pend d.sec))) ∧ wr.there K 0 (d.n * 32) ∧ Only (fun b => b = K) w wr) (fun t _ => m - (intOf t).toNat)
 case atStart => exact ⟨0, Nat.zero_le _, rfl, HR.out.kept, HR.out.kth, Only.refl _ _⟩
 case round =>
  obtain ⟨i, hi, rfl, hri, hti, hoi⟩ := hrel
  have y2 := hoi.cell c2 hrK
  have y3 := hoi.cell c3 hrK
  by_cases hlt : i < m
  ·have i0 : (0 : Int) ≤ (i : Int) := Int.natCast_nonneg _
   have i1 : (i : Int) < (m : Int) := by omega
   have hirs : i < rs.length := by omega
   obtain ⟨g, hga, x0, x1, hgr, hgK⟩ := HR.out.get i hirs
   subst hga
   have z0 := hoi.cell x0 hgK
   have z1 := hoi.cell x1 hgK
   obtain ⟨_, hxr, hxg, hxK, _⟩ := HR.out.at_ _ (List.getElem_mem hirs)
   have hxx : (rs[i]).x = d.pend[i]'(by omega) := by
    have := HR.out.tie
    simp only [← this, List.getElem_map]
   have HD := done_any r K d.n _ (rs[i]).g (rs[i]).c (rs[i]).x.at_ 32 _ (rs[i]).x.aft wr (hoi.cell HR.out.c1 hrK) (HR.out.bd _ (by rw [hxx]; exact List.getElem_mem _)) HR.out.n2 (Nat.le_refl _) hri hti (hoi.range hxr hxK) hrK hxK
   have HD' : Hid (Calls Tryz.prog 69 #[.pointer (some ⟨r, 0, none⟩), .agg #[.int .i64 (rs[i]).x.at_, .slice (some ⟨(rs[i]).g, 0, none⟩) 32 (rs[i]).c], .int .i64 32] wr fun e w' => e = .returned (.tuple #[]) ∧ Hid (w'.rangeAt K 0 (allL d.n (doAll (d.pend.take (i + 1)) (undoW d.pend d.sec))) ∧ w'.there K 0 (d.n * 32) ∧ Only (fun b => b = K) w w')) := by
    refine HD.mono ?_
    rintro e w' ⟨rfl, k1, k2, k3⟩
    rw [allL_mix, hxx] at k1
    rw [doAll_take _ _ i (by omega)]
    exact ⟨rfl, k1, k2, hoi.trans k3 (fun _ _ e => e)⟩
   clear HD hri hti hoi hxr hxx hxg hxK x0 x1
   obtain ⟨k, hk⟩ : ∃ k, k = (rs[i]).x.at_ := ⟨_, rfl⟩
   obtain ⟨gg, hgg⟩ : ∃ k, k = (rs[i]).g := ⟨_, rfl⟩
   obtain ⟨gc, hgc⟩ : ∃ k, k = (rs[i]).c := ⟨_, rfl⟩
   rw [← hk, ← hgg, ← hgc] at HD'
   rw [← hk] at z0
   rw [← hgg, ← hgc] at z1
   clear hk hgg hgc
   go_wp2_with fail
   refine HD'.out.mono ?_
   rintro e w2 ⟨rfl, HE⟩
   clear HD' y2 y3 z0 z1
   go_wp2
   go_roundw
   case rel => exact ⟨i + 1, by omega, by go_num, HE.out.1, HE.out.2.1, HE.out.2.2⟩
   case measure => simp [intOf]; omega
  ·obtain rfl : i = m := by omega
   have yf2 : wr.frozen? ⟨r, 2, none⟩ = false := (hoi.frozen (World.block_lt_of_cell? w _ c2) hrK).trans f2
   have yf3 : wr.frozen? ⟨r, 3, none⟩ = false := (hoi.frozen (World.block_lt_of_cell? w _ c3) hrK).trans f3
   have HRI : Hid (wr.rangeAt K 0 (allL d.n d.sec)) := fin.out _ hoi hri
   have HTI : Hid (wr.there K 0 (d.n * 32)) := hti
   have HOI : Hid (Only (fun b => b = K) w wr) := hoi
   clear hri hti hoi fin
   by_cases hl0 : 0 < d.life
   ·have hag : aged d.life = d.life - 1 := by simp [aged]; omega
    go_wp2
    go_ret
    refine ⟨rfl, ?_⟩
    rw [hag]
    refine ref_end HR.out d.sec (d.life - 1) (by omega) (by omega) HOI.out HRI.out HTI.out (((Only.refl (fun b => b = r) wr).setCell _ _ (fun _ => rfl)).setCell _ _ (fun _ => rfl)) ?_ ?_ ?_ ?_ ?_
    ·intro v hv; rw [World.cell?_setCell_other _ _ _ _ (by simp), World.cell?_setCell_other _ _ _ _ (by simp)]; exact hv
    ·intro v hv; rw [World.cell?_setCell_other _ _ _ _ (by simp), World.cell?_setCell_other _ _ _ _ (by simp)]; exact hv
    ·rw [World.cell?_setCell_other _ _ _ _ (by simp)]; exact World.cell?_setCell_same _ _ _ y2
    ·exact World.cell?_setCell_same _ _ _ (by rw [World.cell?_setCell_other _ _ _ _ (by simp)]; exact y3)
    ·intro a; simp
   ·have hl9 : d.life = -1 := by omega
    go_wp2
    go_ret
    refine ⟨rfl, ?_⟩
    rw [show aged (-1) = -1 from rfl]
    refine ref_end HR.out d.sec (-1) (by omega) (by omega) HOI.out HRI.out HTI.out ((Only.refl (fun b => b = r) wr).setCell _ _ (fun _ => rfl)) ?_ ?_ ?_ ?_ ?_
    ·intro v hv; rw [World.cell?_setCell_other _ _ _ _ (by simp)]; exact hv
    ·intro v hv; rw [World.cell?_setCell_other _ _ _ _ (by simp)]; exact hv
    ·exact World.cell?_setCell_same _ _ _ y2
    ·rw [World.cell?_setCell_other _ _ _ _ (by simp), ← hl9]; exact y3
    ·intro a; simp
end Go.Proofs.YtlcglapcmdpkfaaGreat
