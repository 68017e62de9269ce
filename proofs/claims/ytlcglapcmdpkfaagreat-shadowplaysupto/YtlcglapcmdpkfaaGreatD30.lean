import Derived.Test.YtlcglapcmdpkfaaGreatD27
namespace Go.Proofs.YtlcglapcmdpkfaaGreat
open Go.RowKit
set_option linter.unusedSimpArgs false
set_option linter.unusedVariables false
theorem copy32c (w : World) (g o c : Nat) (f : Nat → Int) (h : w.rangeAt g o (secL f)) :
  ∃ g' cap w', (∀ ty, (Builtin.append_ #[37, 37] ty #[.slice (some ⟨w.heap.size, 0, none⟩) 0 0, .slice (some ⟨g, o, none⟩) 32 c]).run Tryz.prog (w.alloc (.cells #[] 5)) = .ok (.slice (some ⟨g', 0, none⟩) 32 cap) w') ∧ w'.rangeAt g' 0 (secL f) ∧ w.heap.size ≤ g' ∧ g' < w'.heap.size ∧ Only (fun _ => False) w w' ∧ 32 ≤ cap := by
 obtain ⟨i0, hi0, hz0, hz1, hz2⟩ := info_parts info5
 obtain ⟨a, cap, w', hr, own, ho⟩ := app_copy0 37 5 i0 _ 1 Tryz.underlying37 hi0 hz0 hz1 hz2 rfl rfl w (.slice (some ⟨g, o, none⟩) 32 c) 32 (fun j => .int .u8 (f j)) (.inr ⟨_, c, rfl, fun j hj => by rw [Addr.add_mid]; exact h j _ (secL_get f j (by omega))⟩) (fun j => rfl) (by omega)
 have hcap : 32 ≤ cap := by
  rcases own.2 with ⟨_, h0⟩ | ⟨_, cap2, _, hv, _, _, hc, _⟩
  ·omega
  ·simp only [Value.slice.injEq] at hv
   omega
 obtain ⟨g', cap', hv, h1, h2⟩ := own.form (by omega)
 simp only [Value.slice.injEq] at hv
 obtain ⟨rfl, _, rfl⟩ := hv
 refine ⟨g', cap, w', hr, fun j v hv => ?_, h1, h2, ho, hcap⟩
 have hj : j < 32 := by have := (List.getElem?_eq_some_iff.1 hv).1; rwa [secL_length] at this
 rw [Nat.zero_add, own.cellAt j (by omega)]
 exact hv
def RdIsC (w w' : World) (e : Ending) (f : Nat → Int) : Prop := ∃ g cap, e = .returned (.tuple #[.slice (some ⟨g, 0, none⟩) 32 cap, .int .i64 0]) ∧ w'.rangeAt g 0 (secL f) ∧ Only (fun _ => False) w w' ∧ 32 ≤ cap
set_option maxRecDepth 100000 in
set_option maxHeartbeats 1000000 in
theorem rread_cap {w : World} {B r K : Nat} {pv : Value} {d : DS} {rs : List RW} (h : RefAt w B r K pv d rs) (hg : Good d) (hl : d.life ≠ 0) (hlen : d.pend.length ≤ 140737488351232) (k : Nat) (hk : k < d.n) :
  Calls Tryz.prog 9 #[.pointer (some ⟨r, 0, none⟩), .int .i64 k] w fun e w' => RdIsC w w' e (d.sec k) := by
 obtain ⟨a, c, hpv⟩ := h.form
 subst hpv
 have HR : Hid (RefAt w B r K (.slice a rs.length c) d rs) := h
 have HG : Hid (Good d) := hg
 have c0 := h.c0
 have c1 := h.c1
 have c2 := h.c2
 have c3 := h.c3
 have hrl := h.len
 have hn2 := h.n2
 have hlz : (d.life == 0) = false := by simpa using hl
 obtain ⟨m, hm⟩ : ∃ m, m = rs.length := ⟨_, rfl⟩
 have hm2 : m ≤ 140737488351232 := by omega
 have HM : Hid (m = rs.length) := hm
 have HRL : Hid (rs.length = d.pend.length) := hrl
 rw [← hm] at c2
 clear hm hrl
 have oE : Only (fun _ => False) w (w.alloc (.cells #[] 5)) := (Only.refl _ w).alloc _
 have OE : Hid (Only (fun _ => False) w (w.alloc (.cells #[] 5))) := oE
 have e1 := oE.cell c1 (fun e => e)
 have e2 := oE.cell c2 (fun e => e)
 clear oE
 have k0 : ¬ (k : Int) < 0 := by omega
 have k1 : ¬ (d.n : Int) ≤ (k : Int) := by omega
 have hem := empty23
 clear h hg
 go_enter Tryz.func9, Tryz.ntmps9
 go_wp2_with fail
 go_loopw [6] (fun t wr => ∃ i : Int, -1 ≤ i ∧ i < m ∧ t = .int .i64 i ∧ w = wr ∧ ∀ j (hj : j < rs.length), i < (j : Int) → (rs[j]).x.at_ ≠ k) (fun t _ => (intOf t + 1).toNat)
 case atStart => exact ⟨(m : Int) - 1, by omega, by omega, by first | rfl | go_num, rfl, fun j hj hi => by have := HM.out; omega⟩
 case round =>
  obtain ⟨i, hi1, hi2, rfl, rfl, hall⟩ := hrel
  by_cases hneg : i < 0
  ·obtain rfl : i = -1 := by omega
   have hsec : d.sec k = undoW d.pend d.sec k := by
    have h1 := congrFun HG.out k
    rw [← h1]
    exact doAll_keep _ _ _ (fun x hx => by
     rw [← HR.out.tie] at hx
     obtain ⟨y, hy, rfl⟩ := List.mem_map.1 hx
     obtain ⟨j, hj, rfl⟩ := List.getElem_of_mem hy
     exact hall j hj (by omega))
   have hsrc : w.rangeAt K (k * 32) (secL (d.sec k)) := fun j v hv => by
    have hj : j < 32 := by have := (List.getElem?_eq_some_iff.1 hv).1; rwa [secL_length] at this
    rw [secL_get _ _ hj] at hv
    have := HR.out.kept (k * 32 + j) (.int .u8 (undoW d.pend d.sec k j)) (allL_get _ _ k j hk hj)
    rw [Nat.zero_add] at this
    rw [this, ← hv, hsec]
   obtain ⟨g', cap, w', hr, hrg, hg1, hg2, ho, hcap⟩ := copy32c w K (k * 32) (d.n * 32 - k * 32) (d.sec k) hsrc
   have HRR : Hid _ := hr
   have HRG : Hid (w'.rangeAt g' 0 (secL (d.sec k)) ∧ Only (fun _ => False) w w' ∧ 32 ≤ cap) := ⟨hrg, ho, hcap⟩
   clear hr hrg ho hcap hsrc hsec hall
   have q1 : IntKind.i64.wrap ((k : Int) * 32) = (k : Int) * 32 := by rw [IntKind.wrap_i64]; omega
   have q2 : IntKind.i64.wrap ((k : Int) + 1) = (k : Int) + 1 := by rw [IntKind.wrap_i64]; omega
   have q3 : IntKind.i64.wrap (((k : Int) + 1) * 32) = ((k : Int) + 1) * 32 := by rw [IntKind.wrap_i64]; omega
   have q4 : (0 : Int) ≤ (k : Int) * 32 := by omega
   have q5 : (k : Int) * 32 ≤ ((k : Int) + 1) * 32 := by omega
   have q6 : ((k : Int) + 1) * 32 ≤ (d.n : Int) * 32 := by omega
   have q7 : ((k : Int) * 32).toNat = k * 32 := by omega
   have q8 : (((k : Int) + 1) * 32).toNat = (k + 1) * 32 := by omega
   have q9 : (k + 1) * 32 - k * 32 = 32 := by omega
   go_wp2_with (at_builtin; refine wpList_append_run rfl _ _ 37 rfl _ _ (.slice (some ⟨g', 0, none⟩) 32 cap) rfl rfl HRR.out ?_)
   go_ret2
   exact ⟨g', cap, rfl, HRG.out⟩
  ·obtain ⟨j, rfl⟩ : ∃ j : Nat, i = (j : Int) := ⟨i.toNat, by omega⟩
   have j0 : (0 : Int) ≤ (j : Int) := Int.natCast_nonneg _
   have hjr : j < rs.length := by have := HM.out; omega
   obtain ⟨g, hga, x0, x1, hgr, hgK⟩ := HR.out.get j hjr
   subst hga
   by_cases hat : (rs[j]).x.at_ = k
   ·have hsec : d.sec k = (rs[j]).x.aft := by
     have hjd : j < d.pend.length := by have := HRL.out; omega
     have hx : ∀ q (hq : q < rs.length) (hq' : q < d.pend.length), (rs[q]).x = d.pend[q] := fun q hq hq' => by
      have := HR.out.tie
      simp only [← this, List.getElem_map]
     have h1 := congrFun HG.out (d.pend[j]).at_
     rw [doAll_last _ _ j hjd (fun q hq hlt => by
      have hq' : q < rs.length := by have := HRL.out; omega
      rw [← hx q hq' hq, ← hx j hjr hjd, hat]; exact hall q hq' (by omega)), ← hx j hjr hjd, hat] at h1
     exact h1.symm
    obtain ⟨_, hxr, _⟩ := HR.out.at_ _ (List.getElem_mem hjr)
    rw [← hsec] at hxr
    obtain ⟨g', cap, w', hr, hrg, hg1, hg2, ho, hcap⟩ := copy32c w (rs[j]).g 0 (rs[j]).c (d.sec k) hxr
    have HRR : Hid _ := hr
    have HRG : Hid (w'.rangeAt g' 0 (secL (d.sec k)) ∧ Only (fun _ => False) w w' ∧ 32 ≤ cap) := ⟨hrg, ho, hcap⟩
    have z1 := OE.out.cell x1 (fun e => e)
    obtain ⟨ka, hka⟩ : ∃ ka, ka = (rs[j]).x.at_ := ⟨_, rfl⟩
    obtain ⟨gg, hgg⟩ : ∃ k, k = (rs[j]).g := ⟨_, rfl⟩
    obtain ⟨gc, hgc⟩ : ∃ k, k = (rs[j]).c := ⟨_, rfl⟩
    rw [← hgg, ← hgc] at HRR z1
    rw [← hka] at hat x0
    subst hat
    clear hr hrg ho hcap hxr hsec hall hka hgg hgc x1
    go_wp2_with (at_builtin; refine wpList_append_run rfl _ _ 37 rfl _ _ (.slice (some ⟨g', 0, none⟩) 32 cap) rfl rfl HRR.out ?_)
    go_ret2
    exact ⟨g', cap, rfl, HRG.out⟩
   ·have hat' : ¬ (((rs[j]).x.at_ : Nat) : Int) = (k : Int) := by omega
    have HALL : Hid (∀ q (hq : q < rs.length), (j : Int) - 1 < (q : Int) → (rs[q]).x.at_ ≠ k) := fun q hq hi => by
     by_cases e : q = j
     ·subst e; exact hat
     ·exact hall q hq (by omega)
    obtain ⟨ka, hka⟩ : ∃ ka, ka = (rs[j]).x.at_ := ⟨_, rfl⟩
    rw [← hka] at hat hat' x0
    clear hka hall x1
    go_wp2
    go_roundw
    case rel => exact ⟨(j : Int) - 1, by omega, by omega, by go_num, trivial, HALL.out⟩
    case measure => simp [intOf]
end Go.Proofs.YtlcglapcmdpkfaaGreat
