import Derived.Test.YtlcglapcmdpkfaaGreatD25
namespace Go.Proofs.YtlcglapcmdpkfaaGreat
open Go.RowKit
set_option linter.unusedSimpArgs false
set_option linter.unusedVariables false
theorem crashTo_stop (kp : Nat → Bool) (torn : Int) (cut : Nat) (ws : List Wr) (s : Nat → Nat → Int) (i : Nat) (h : ∀ j, i ≤ j → kp j = false) : ∀ n, crashTo kp torn cut ws s (i + n) = crashTo kp torn cut ws s i
 | 0 => rfl
 | n + 1 => by rw [← Nat.add_assoc, crashTo_no _ _ _ _ _ _ (h _ (by omega))]; exact crashTo_stop kp torn cut ws s i h n
set_option maxHeartbeats 400000 in
theorem rcrash_bad (r : Nat) (kv : Value) (torn cut : Int) (w : World) (h : cut < 0 ∨ 32 < cut) :
  Calls Tryz.prog 37 #[.pointer (some ⟨r, 0, none⟩), kv, .int .i64 torn, .int .i64 cut] w fun e w' => e = .returned (.int .i64 2) ∧ w' = w := by
 rcases h with h | h
 ·go_enter Tryz.func37, Tryz.ntmps37
  go_wp2
  go_ret
  exact ⟨rfl, rfl⟩
 ·have h' : ¬ cut < 0 := by omega
  go_enter Tryz.func37, Tryz.ntmps37
  go_wp2
  go_ret
  exact ⟨rfl, rfl⟩
set_option maxRecDepth 100000 in
set_option maxHeartbeats 2000000 in
theorem rcrash_any {w : World} {B r K : Nat} {pv : Value} {d : DS} {rs : List RW} (h : RefAt w B r K pv d rs) (hlen : d.pend.length ≤ 140737488351232) (kv : Value) (kl : Nat) (kf : Nat → Bool) (torn : Int) (cut : Nat) (hcut : (cut : Int) ≤ 32) (hkv : DFlags w kv kl kf K) :
  Calls Tryz.prog 37 #[.pointer (some ⟨r, 0, none⟩), kv, .int .i64 torn, .int .i64 cut] w fun e w' => e = .returned (.int .i64 0) ∧ RefAt w' B r K (.slice none 0 0) ⟨d.n, crashTo (fun i => decide (i < kl) && kf i) torn cut d.pend (undoW d.pend d.sec) d.pend.length, [], -1⟩ [] ∧ Only (fun b => b = r ∨ b = K) w w' := by
 obtain ⟨a, c, hpv⟩ := h.form
 subst hpv
 obtain ⟨ka, kc, rfl, hkm, hka⟩ := hkv
 have HR : Hid (RefAt w B r K (.slice a rs.length c) d rs) := h
 have HKA : Hid (∀ i, i < kl → ∃ kb ko, ka = some ⟨kb, ko, none⟩ ∧ kb ≠ K ∧ w.cell? ⟨kb, ko + i, none⟩ = some (.bool (kf i))) := hka
 have c2 := h.c2
 have c3 := h.c3
 have f2 := h.f2
 have f3 := h.f3
 have hrl := h.len
 obtain ⟨m, hm⟩ : ∃ m, m = rs.length := ⟨_, rfl⟩
 have hm2 : m ≤ 140737488351232 := by omega
 have hmp : m = d.pend.length := by omega
 have hkl : kl ≤ 9223372036854775807 := hkm
 have HM : Hid (m = rs.length) := hm
 rw [← hm] at c2
 have hrK := h.rK
 obtain ⟨kp, hkp⟩ : ∃ kp : Nat → Bool, kp = fun i => decide (i < kl) && kf i := ⟨_, rfl⟩
 have HKP : Hid (kp = fun i => decide (i < kl) && kf i) := hkp
 rw [← hkp]
 have hc1 : ¬ (cut : Int) < 0 := by omega
 have hc2 : ¬ (32 : Int) < (cut : Int) := by omega
 have FIN : Hid (∀ (wr : World) (i : Nat), Only (fun b => b = K) w wr → wr.rangeAt K 0 (allL d.n (crashTo kp torn cut d.pend (undoW d.pend d.sec) i)) → wr.there K 0 (d.n * 32) → i ≤ m → (i < m → kl ≤ i) →
   RefAt ((wr.setCell ⟨r, 2, none⟩ (.slice none 0 0)).setCell ⟨r, 3, none⟩ (.int .i64 (-1))) B r K (.slice none 0 0) ⟨d.n, crashTo kp torn cut d.pend (undoW d.pend d.sec) d.pend.length, [], -1⟩ [] ∧ Only (fun b => b = r ∨ b = K) w ((wr.setCell ⟨r, 2, none⟩ (.slice none 0 0)).setCell ⟨r, 3, none⟩ (.int .i64 (-1)))) := by
  intro wr i ho hr ht hi hs
  have e : crashTo kp torn cut d.pend (undoW d.pend d.sec) d.pend.length = crashTo kp torn cut d.pend (undoW d.pend d.sec) i := by
   by_cases hlt : i < m
   ·have hkl := hs hlt
    have := crashTo_stop kp torn cut d.pend (undoW d.pend d.sec) i (fun j hj => by rw [hkp]; simp; omega) (d.pend.length - i)
    rw [show i + (d.pend.length - i) = d.pend.length by omega] at this
    exact this
   ·rw [show d.pend.length = i by omega]
  rw [e]
  have y2 := ho.cell c2 hrK
  have y3 := ho.cell c3 hrK
  refine ref_end h _ (-1) (by omega) (by omega) ho hr ht (((Only.refl (fun b => b = r) wr).setCell _ _ (fun _ => rfl)).setCell _ _ (fun _ => rfl)) ?_ ?_ ?_ ?_ ?_
  ·intro v hv; rw [World.cell?_setCell_other _ _ _ _ (by simp), World.cell?_setCell_other _ _ _ _ (by simp)]; exact hv
  ·intro v hv; rw [World.cell?_setCell_other _ _ _ _ (by simp), World.cell?_setCell_other _ _ _ _ (by simp)]; exact hv
  ·rw [World.cell?_setCell_other _ _ _ _ (by simp)]; exact World.cell?_setCell_same _ _ _ y2
  ·exact World.cell?_setCell_same _ _ _ (by rw [World.cell?_setCell_other _ _ _ _ (by simp)]; exact y3)
  ·intro a; simp
 clear h hkp hka
 go_enter Tryz.func37, Tryz.ntmps37
 go_wp2_with fail
 go_loopw [9] (fun t wr => ∃ i : Nat, i ≤ m ∧ t = .int .i64 i ∧ wr.rangeAt K 0 (allL d.n (crashTo kp torn cut d.pend (undoW d.pend d.sec) i)) ∧ wr.there K 0 (d.n * 32) ∧ Only (fun b => b = K) w wr) (fun t _ => m - (intOf t).toNat)
 case atStart => exact ⟨0, Nat.zero_le _, rfl, HR.out.kept, HR.out.kth, Only.refl _ _⟩
 case round =>
  obtain ⟨i, hi, rfl, hri, hti, hoi⟩ := hrel
  have y2 := hoi.cell c2 hrK
  have y3 := hoi.cell c3 hrK
  have yf2 : wr.frozen? ⟨r, 2, none⟩ = false := (hoi.frozen (World.block_lt_of_cell? w _ c2) hrK).trans f2
  have yf3 : wr.frozen? ⟨r, 3, none⟩ = false := (hoi.frozen (World.block_lt_of_cell? w _ c3) hrK).trans f3
  by_cases hlt : i < m
  ·have i0 : (0 : Int) ≤ (i : Int) := Int.natCast_nonneg _
   have i1 : (i : Int) < (m : Int) := by omega
   by_cases hk : i < kl
   ·have hk2 : (i : Int) < (kl : Int) := by omega
    obtain ⟨kb, ko, hkae, hkK, hkc⟩ := HKA.out i hk
    subst hkae
    have hkx := hoi.cell hkc hkK
    have hirs : i < rs.length := by omega
    cases hkf : kf i with
    | false =>
      rw [hkf] at hkx
      have HN : Hid (wr.rangeAt K 0 (allL d.n (crashTo kp torn cut d.pend (undoW d.pend d.sec) (i + 1)))) := by
       rw [crashTo_no _ _ _ _ _ _ (by rw [HKP.out]; simp [hkf])]; exact hri
      have HTI : Hid (wr.there K 0 (d.n * 32)) := hti
      have HOI : Hid (Only (fun b => b = K) w wr) := hoi
      clear hri hti hoi hkf hkc
      go_wp2
      go_roundw
      case rel => exact ⟨i + 1, by omega, by go_num, HN.out, HTI.out, HOI.out⟩
      case measure => simp [intOf]; omega
    | true =>
      rw [hkf] at hkx
      obtain ⟨g, hga, x0, x1, hgr, hgK⟩ := HR.out.get i hirs
      subst hga
      have z0 := hoi.cell x0 hgK
      have z1 := hoi.cell x1 hgK
      obtain ⟨_, hxr, hxg, hxK, _⟩ := HR.out.at_ _ (List.getElem_mem hirs)
      have hxx : (rs[i]).x = d.pend[i]'(by omega) := by
       have := HR.out.tie
       simp only [← this, List.getElem_map]
      have HDD : Hid (∀ q : Nat, q ≤ 32 → (q = if (i : Int) = torn then cut else 32) → Calls Tryz.prog 69 #[.pointer (some ⟨r, 0, none⟩), .agg #[.int .i64 (rs[i]).x.at_, .slice (some ⟨(rs[i]).g, 0, none⟩) 32 (rs[i]).c], .int .i64 q] wr fun e w' => e = .returned (.tuple #[]) ∧ Hid (w'.rangeAt K 0 (allL d.n (crashTo kp torn cut d.pend (undoW d.pend d.sec) (i + 1))) ∧ w'.there K 0 (d.n * 32) ∧ Only (fun b => b = K) w w')) := by
       intro q hq hqe
       refine (done_any r K d.n _ (rs[i]).g (rs[i]).c (rs[i]).x.at_ q _ (rs[i]).x.aft wr (hoi.cell HR.out.c1 hrK) (HR.out.bd _ (by rw [hxx]; exact List.getElem_mem _)) HR.out.n2 hq hri hti (hoi.range hxr hxK) hrK hxK).mono ?_
       rintro e w' ⟨rfl, k1, k2, k3⟩
       refine ⟨rfl, ?_, k2, hoi.trans k3 (fun _ _ e => e)⟩
       rw [crashTo_yes kp torn cut d.pend _ i (rs[i]).x (by rw [hxx]; exact List.getElem?_eq_getElem (by omega)) (by rw [HKP.out]; simp [hkf, hk]), ← hqe]
       exact k1
      clear hri hti hoi hxr hxx hxg hxK x0 x1 hkf hkc
      obtain ⟨k, hk⟩ : ∃ k, k = (rs[i]).x.at_ := ⟨_, rfl⟩
      obtain ⟨gg, hgg⟩ : ∃ k, k = (rs[i]).g := ⟨_, rfl⟩
      obtain ⟨gc, hgc⟩ : ∃ k, k = (rs[i]).c := ⟨_, rfl⟩
      rw [← hk, ← hgg, ← hgc] at HDD
      rw [← hk] at z0
      rw [← hgg, ← hgc] at z1
      clear hk hgg hgc
      by_cases htn : (i : Int) = torn
      ·have HD' : Hid _ := HDD.out cut (by omega) (by rw [if_pos htn])
       clear HDD
       subst htn
       go_wp2_with fail
       refine Calls.mono HD'.out ?_
       rintro e w2 ⟨rfl, HE⟩
       clear HD' y2 y3 z0 z1 yf2 yf3 hkx
       go_wp2
       go_roundw
       case rel => exact ⟨i + 1, by omega, by go_num, HE.out.1, HE.out.2.1, HE.out.2.2⟩
       case measure => simp [intOf]; omega
      ·have HD' : Hid _ := HDD.out 32 (by omega) (by rw [if_neg htn])
       clear HDD
       have hkx' := hkx
       go_wp2_with fail
       refine Calls.mono HD'.out ?_
       rintro e w2 ⟨rfl, HE⟩
       clear HD' y2 y3 z0 z1 yf2 yf3 hkx
       go_wp2
       go_roundw
       case rel => exact ⟨i + 1, by omega, by go_num, HE.out.1, HE.out.2.1, HE.out.2.2⟩
       case measure => simp [intOf]; omega
   ·have hk2 : ¬ (i : Int) < (kl : Int) := by omega
    have HE : Hid _ := FIN.out wr i hoi hri hti hi (fun _ => by omega)
    clear hri hti hoi
    go_wp2
    go_ret
    exact ⟨rfl, HE.out⟩
  ·obtain rfl : i = m := by omega
   have HE : Hid _ := FIN.out wr i hoi hri hti hi (fun h => by omega)
   clear hri hti hoi
   go_wp2
   go_ret
   exact ⟨rfl, HE.out⟩
end Go.Proofs.YtlcglapcmdpkfaaGreat
