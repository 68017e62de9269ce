import Derived.Test.YtlcglapcmdpkfaaGreatD26
namespace Go.Proofs.YtlcglapcmdpkfaaGreat
open Go.RowKit
set_option linter.unusedSimpArgs false
set_option linter.unusedVariables false
set_option maxHeartbeats 400000 in
theorem rnew_bad (n : Int) (w : World) (h : n < 1 ∨ 8192 < n) :
  Calls Tryz.prog 6 #[.int .i64 n] w fun e w' => e = .returned (.tuple #[.pointer none, .int .i64 2]) ∧ w' = w := by
 rcases h with h | h
 ·go_enter Tryz.func6, Tryz.ntmps6
  go_wp2
  go_ret2
  exact ⟨rfl, rfl⟩
 ·have h' : ¬ n < 1 := by omega
  go_enter Tryz.func6, Tryz.ntmps6
  go_wp2
  go_ret2
  exact ⟨rfl, rfl⟩
set_option maxHeartbeats 400000 in
theorem rnew_core (n : Nat) (A : Array Value) (w : World) (h1 : (1 : Int) ≤ n) (h2 : (n : Int) ≤ 8192)
  (hmk : ∀ w, (Instr.makeSlice 37 (.int .i64 (n * 32)) (.int .i64 (n * 32))).run Tryz.prog w = .ok (.slice (some ⟨w.heap.size, 0, none⟩) (n * 32) (n * 32)) (w.alloc (.cells A 5))) :
  Calls Tryz.prog 6 #[.int .i64 n] w fun e w' => e = .returned (.tuple #[.pointer (some ⟨w.heap.size + 1, 0, none⟩), .int .i64 0]) ∧
   w' = (w.alloc (.cells A 5)).alloc (.cells #[.int .i64 n, .slice (some ⟨w.heap.size, 0, none⟩) (n * 32) (n * 32), .slice none 0 0, .int .i64 (-1)] 57) := by
 have h1' : ¬ (n : Int) < 1 := by omega
 have h2' : ¬ (8192 : Int) < n := by omega
 have hw : IntKind.i64.wrap ((n : Int) * 32) = (n : Int) * 32 := by rw [IntKind.wrap_i64]; omega
 go_enter Tryz.func6, Tryz.ntmps6
 go_wp2
 go_ret2
 exact ⟨rfl, rfl⟩
theorem rnew_ok (n : Nat) (w : World) (h1 : 1 ≤ n) (h2 : n ≤ 8192) :
  Calls Tryz.prog 6 #[.int .i64 n] w fun e w' => e = .returned (.tuple #[.pointer (some ⟨w.heap.size + 1, 0, none⟩), .int .i64 0]) ∧
   RefAt w' w.heap.size (w.heap.size + 1) w.heap.size (.slice none 0 0) ⟨n, fun _ _ => 0, [], -1⟩ [] ∧ Only (fun _ => False) w w' := by
 obtain ⟨i0, hi0, hz0, hz1, hz2⟩ := info_parts info5
 refine (rnew_core n (madeCells (Value.int .u8 0).cells (n * 32)) w (by omega) (by omega) (fun w => ?_)).mono ?_
 ·have := run_make (P := Tryz.prog) w 37 5 i0 _ Tryz.underlying37 hi0 hz0 .i64 .i64 ((n : Int) * 32) ((n : Int) * 32) (by omega) (Int.le_refl _) (by rw [hz2]; omega) (by omega)
  rw [hz1, show ((n : Int) * 32).toNat = n * 32 by omega, Nat.mul_one] at this
  exact this
 rintro e w' ⟨rfl, rfl⟩
 refine ⟨rfl, ?_, ((Only.refl _ w).alloc _).alloc _⟩
 have hS := heap_alloc2_old w (.cells (madeCells (Value.int .u8 0).cells (n * 32)) 5) (.cells #[.int .i64 n, .slice (some ⟨w.heap.size, 0, none⟩) (n * 32) (n * 32), .slice none 0 0, .int .i64 (-1)] 57)
 have hp := heap_alloc2_new w (.cells (madeCells (Value.int .u8 0).cells (n * 32)) 5) (.cells #[.int .i64 n, .slice (some ⟨w.heap.size, 0, none⟩) (n * 32) (n * 32), .slice none 0 0, .int .i64 (-1)] 57)
 have hcell : ∀ j, j < n * 32 → (madeCells (Value.int .u8 0).cells (n * 32))[j]? = some (.int .u8 0) := by
  intro j hj
  simp [madeCells, hj, Value.cells, Nat.mod_one]
 exact { rB := by omega, KB := by omega, rK := by omega
         c0 := by rw [cell_of_row _ _ 0 _ _ _ hp]; rfl
         c1 := by rw [cell_of_row _ _ 1 _ _ _ hp]; rfl
         c2 := by rw [cell_of_row _ _ 2 _ _ _ hp]; rfl
         c3 := by rw [cell_of_row _ _ 3 _ _ _ hp]; rfl
         f2 := frozen_of_row _ _ _ _ _ hp
         f3 := frozen_of_row _ _ _ _ _ hp
         kept := fun j v hv => by
          obtain ⟨hj, hv⟩ := List.getElem?_eq_some_iff.1 hv
          simp only [allL, List.length_map, List.length_range] at hj
          simp only [allL, List.getElem_map, List.getElem_range] at hv
          rw [Nat.zero_add, cell_of_row _ _ _ _ _ _ hS, hcell _ hj, ← hv]; rfl
         kth := fun j hj => by
          rw [Nat.zero_add]
          refine ⟨?_, frozen_of_row _ _ _ _ _ hS⟩
          rw [cell_of_row _ _ _ _ _ _ hS, hcell _ hj]; rfl
         own := World.ownsRow_nil _ _ _ _
         hr := by simp [Value.ownBlock]
         hK := by simp [Value.ownBlock]
         tie := rfl
         at_ := fun x hx => by cases hx
         bd := fun x hx => by cases hx
         n1 := h1, n2 := h2
         l1 := by simp
         l2 := by simp }
set_option maxHeartbeats 400000 in
theorem rread_dead (r : Nat) (k : Int) (w : World) (h3 : w.cell? ⟨r, 3, none⟩ = some (.int .i64 0)) :
  Calls Tryz.prog 9 #[.pointer (some ⟨r, 0, none⟩), .int .i64 k] w fun e w' => e = .returned (.tuple #[.slice none 0 0, .int .i64 3]) ∧ w' = w := by
 go_enter Tryz.func9, Tryz.ntmps9
 go_wp2
 go_ret2
 exact ⟨rfl, rfl⟩
theorem app_copy0 (t e : TypeId) (i : TypeInfo) (z : Value) (bytes : Nat) (ht : Tryz.prog.underlying t = some (.slice e)) (hi : Tryz.prog.info? e = some i) (hz : i.zero = some z) (hsize : i.size = 1) (hby : i.bytes = bytes) (hzs : z.cells.size = 1) (hb1 : bytes = 1)
  (w : World) (v : Value) (m : Nat) (f : Nat → Value) (hv : (v = .slice none 0 0 ∧ m = 0) ∨ ∃ ad c, v = .slice (some ad) m c ∧ ∀ j, j < m * 1 → w.cell? (ad.add j) = some (f j)) (ho : ∀ j, (f j).oneCell' = true) (hm : m ≤ 140737488355328) :
  ∃ a cap w', (∀ ty, (Builtin.append_ #[t, t] ty #[.slice (some ⟨w.heap.size, 0, none⟩) 0 0, v]).run Tryz.prog (w.alloc (.cells #[] e)) = .ok (.slice a m cap) w') ∧ w'.ownsRow w.heap.size e 1 (.slice a m cap) m ((List.range m).map f) ∧ Only (fun _ => False) w w' := by
 have hown : (w.alloc (.cells #[] e)).ownsRow w.heap.size e 1 (.slice (some ⟨w.heap.size, 0, none⟩) 0 0) 0 [] := World.ownsRow_made w #[] 0 (Nat.le_refl _) (Nat.zero_le _) rfl
 have oA : Only (fun _ => False) w (w.alloc (.cells #[] e)) := (Only.refl _ w).alloc _
 rcases hv with ⟨rfl, rfl⟩ | ⟨ad, c, rfl, hc⟩
 ·exact ⟨some ⟨w.heap.size, 0, none⟩, 0, _, fun ty => run_append_owned_none _ w.heap.size t ty e i 1 ht hi _ 0 [] hown, by simpa using hown, oA⟩
 ·have hnews : ∀ j u, ((List.range m).map f)[j]? = some u → (w.alloc (.cells #[] e)).cell? (ad.add j) = some u := fun j u hu => by
   have hj : j < m := by have := (List.getElem?_eq_some_iff.1 hu).1; simpa using this
   simp [hj] at hu
   rw [← hu]
   exact oA.cell (hc j (by omega)) (fun e => e)
  have h1 : ∀ u ∈ (List.range m).map f, u.oneCell' = true := fun u hu => by obtain ⟨j, _, rfl⟩ := List.mem_map.1 hu; exact ho j
  have key := fun ty => run_append_own_at (P := Tryz.prog) (w.alloc (.cells #[] e)) w.heap.size t ty e i z 1 bytes ht hi hz hsize hby hzs (by omega) _ 0 [] hown ad m c ((List.range m).map f) (by simp) hnews h1 (by unfold maxLen; omega) (by subst hb1; omega) (by simp)
  obtain ⟨v', w', hr, own', hg, _, _⟩ := key 0
  obtain ⟨a, cap, rfl⟩ := ownsRow_slice own'
  rw [Nat.zero_add] at own' hr
  refine ⟨a, cap, w', fun ty => ?_, by simpa using own', oA.grown hg (fun k e hk => by simp [Value.ownBlock] at e; omega)⟩
  rw [← hr]
  rfl
theorem copy32 (w : World) (g o c : Nat) (f : Nat → Int) (h : w.rangeAt g o (secL f)) :
  ∃ g' cap w', (∀ ty, (Builtin.append_ #[37, 37] ty #[.slice (some ⟨w.heap.size, 0, none⟩) 0 0, .slice (some ⟨g, o, none⟩) 32 c]).run Tryz.prog (w.alloc (.cells #[] 5)) = .ok (.slice (some ⟨g', 0, none⟩) 32 cap) w') ∧ w'.rangeAt g' 0 (secL f) ∧ w.heap.size ≤ g' ∧ g' < w'.heap.size ∧ Only (fun _ => False) w w' := by
 obtain ⟨i0, hi0, hz0, hz1, hz2⟩ := info_parts info5
 obtain ⟨a, cap, w', hr, own, ho⟩ := app_copy0 37 5 i0 _ 1 Tryz.underlying37 hi0 hz0 hz1 hz2 rfl rfl w (.slice (some ⟨g, o, none⟩) 32 c) 32 (fun j => .int .u8 (f j)) (.inr ⟨_, c, rfl, fun j hj => by rw [Addr.add_mid]; exact h j _ (secL_get f j (by omega))⟩) (fun j => rfl) (by omega)
 obtain ⟨g', cap', hv, h1, h2⟩ := own.form (by omega)
 simp only [Value.slice.injEq] at hv
 obtain ⟨rfl, _, rfl⟩ := hv
 refine ⟨g', cap, w', hr, fun j v hv => ?_, h1, h2, ho⟩
 have hj : j < 32 := by have := (List.getElem?_eq_some_iff.1 hv).1; rwa [secL_length] at this
 rw [Nat.zero_add, own.cellAt j (by omega)]
 exact hv
def RdIs (w w' : World) (e : Ending) (f : Nat → Int) : Prop := ∃ g cap, e = .returned (.tuple #[.slice (some ⟨g, 0, none⟩) 32 cap, .int .i64 0]) ∧ w'.rangeAt g 0 (secL f) ∧ Only (fun _ => False) w w'
set_option maxRecDepth 100000 in
set_option maxHeartbeats 1000000 in
theorem rread_any {w : World} {B r K : Nat} {pv : Value} {d : DS} {rs : List RW} (h : RefAt w B r K pv d rs) (hg : Good d) (hl : d.life ≠ 0) (hlen : d.pend.length ≤ 140737488351232) (k : Nat) (hk : k < d.n) :
  Calls Tryz.prog 9 #[.pointer (some ⟨r, 0, none⟩), .int .i64 k] w fun e w' => RdIs w w' e (d.sec k) := by
 obtain ⟨a, c, hpv⟩ := h.form
 subst hpv
 have HR : Hid (RefAt w B r K (.slice a rs.length c) d rs) := h
 have HG : Hid (Good d) := hg
 have c0 := h.c0
 have c1 := h.c1
 have c2 := h.c2
 have c3 := h.c3
 have hrl := h.len
 have hn2 := h.n2
 have hlz : (d.life == 0) = false := by simpa using hl
 obtain ⟨m, hm⟩ : ∃ m, m = rs.length := ⟨_, rfl⟩
 have hm2 : m ≤ 140737488351232 := by omega
 have HM : Hid (m = rs.length) := hm
 have HRL : Hid (rs.length = d.pend.length) := hrl
 rw [← hm] at c2
 clear hm hrl
 have oE : Only (fun _ => False) w (w.alloc (.cells #[] 5)) := (Only.refl _ w).alloc _
 have OE : Hid (Only (fun _ => False) w (w.alloc (.cells #[] 5))) := oE
 have e1 := oE.cell c1 (fun e => e)
 have e2 := oE.cell c2 (fun e => e)
 clear oE
 have k0 : ¬ (k : Int) < 0 := by omega
 have k1 : ¬ (d.n : Int) ≤ (k : Int) := by omega
 have hem := empty23
 clear h hg
 go_enter Tryz.func9, Tryz.ntmps9
 go_wp2_with fail
 go_loopw [6] (fun t wr => ∃ i : Int, -1 ≤ i ∧ i < m ∧ t = .int .i64 i ∧ w = wr ∧ ∀ j (hj : j < rs.length), i < (j : Int) → (rs[j]).x.at_ ≠ k) (fun t _ => (intOf t + 1).toNat)
 case atStart => exact ⟨(m : Int) - 1, by omega, by omega, by first | rfl | go_num, rfl, fun j hj hi => by have := HM.out; omega⟩
 case round =>
  obtain ⟨i, hi1, hi2, rfl, rfl, hall⟩ := hrel
  by_cases hneg : i < 0
  ·obtain rfl : i = -1 := by omega
   have hsec : d.sec k = undoW d.pend d.sec k := by
    have h1 := congrFun HG.out k
    rw [← h1]
    exact doAll_keep _ _ _ (fun x hx => by
     rw [← HR.out.tie] at hx
     obtain ⟨y, hy, rfl⟩ := List.mem_map.1 hx
     obtain ⟨j, hj, rfl⟩ := List.getElem_of_mem hy
     exact hall j hj (by omega))
   have hsrc : w.rangeAt K (k * 32) (secL (d.sec k)) := fun j v hv => by
    have hj : j < 32 := by have := (List.getElem?_eq_some_iff.1 hv).1; rwa [secL_length] at this
    rw [secL_get _ _ hj] at hv
    have := HR.out.kept (k * 32 + j) (.int .u8 (undoW d.pend d.sec k j)) (allL_get _ _ k j hk hj)
    rw [Nat.zero_add] at this
    rw [this, ← hv, hsec]
   obtain ⟨g', cap, w', hr, hrg, hg1, hg2, ho⟩ := copy32 w K (k * 32) (d.n * 32 - k * 32) (d.sec k) hsrc
   have HRR : Hid _ := hr
   have HRG : Hid (w'.rangeAt g' 0 (secL (d.sec k)) ∧ Only (fun _ => False) w w') := ⟨hrg, ho⟩
   clear hr hrg ho hsrc hsec hall
   have q1 : IntKind.i64.wrap ((k : Int) * 32) = (k : Int) * 32 := by rw [IntKind.wrap_i64]; omega
   have q2 : IntKind.i64.wrap ((k : Int) + 1) = (k : Int) + 1 := by rw [IntKind.wrap_i64]; omega
   have q3 : IntKind.i64.wrap (((k : Int) + 1) * 32) = ((k : Int) + 1) * 32 := by rw [IntKind.wrap_i64]; omega
   have q4 : (0 : Int) ≤ (k : Int) * 32 := by omega
   have q5 : (k : Int) * 32 ≤ ((k : Int) + 1) * 32 := by omega
   have q6 : ((k : Int) + 1) * 32 ≤ (d.n : Int) * 32 := by omega
   have q7 : ((k : Int) * 32).toNat = k * 32 := by omega
   have q8 : (((k : Int) + 1) * 32).toNat = (k + 1) * 32 := by omega
   have q9 : (k + 1) * 32 - k * 32 = 32 := by omega
   go_wp2_with (at_builtin; refine wpList_append_run rfl _ _ 37 rfl _ _ (.slice (some ⟨g', 0, none⟩) 32 cap) rfl rfl HRR.out ?_)
   go_ret2
   exact ⟨g', cap, rfl, HRG.out⟩
  ·obtain ⟨j, rfl⟩ : ∃ j : Nat, i = (j : Int) := ⟨i.toNat, by omega⟩
   have j0 : (0 : Int) ≤ (j : Int) := Int.natCast_nonneg _
   have hjr : j < rs.length := by have := HM.out; omega
   obtain ⟨g, hga, x0, x1, hgr, hgK⟩ := HR.out.get j hjr
   subst hga
   by_cases hat : (rs[j]).x.at_ = k
   ·have hsec : d.sec k = (rs[j]).x.aft := by
     have hjd : j < d.pend.length := by have := HRL.out; omega
     have hx : ∀ q (hq : q < rs.length) (hq' : q < d.pend.length), (rs[q]).x = d.pend[q] := fun q hq hq' => by
      have := HR.out.tie
      simp only [← this, List.getElem_map]
     have h1 := congrFun HG.out (d.pend[j]).at_
     rw [doAll_last _ _ j hjd (fun q hq hlt => by
      have hq' : q < rs.length := by have := HRL.out; omega
      rw [← hx q hq' hq, ← hx j hjr hjd, hat]; exact hall q hq' (by omega)), ← hx j hjr hjd, hat] at h1
     exact h1.symm
    obtain ⟨_, hxr, _⟩ := HR.out.at_ _ (List.getElem_mem hjr)
    rw [← hsec] at hxr
    obtain ⟨g', cap, w', hr, hrg, hg1, hg2, ho⟩ := copy32 w (rs[j]).g 0 (rs[j]).c (d.sec k) hxr
    have HRR : Hid _ := hr
    have HRG : Hid (w'.rangeAt g' 0 (secL (d.sec k)) ∧ Only (fun _ => False) w w') := ⟨hrg, ho⟩
    have z1 := OE.out.cell x1 (fun e => e)
    obtain ⟨ka, hka⟩ : ∃ ka, ka = (rs[j]).x.at_ := ⟨_, rfl⟩
    obtain ⟨gg, hgg⟩ : ∃ k, k = (rs[j]).g := ⟨_, rfl⟩
    obtain ⟨gc, hgc⟩ : ∃ k, k = (rs[j]).c := ⟨_, rfl⟩
    rw [← hgg, ← hgc] at HRR z1
    rw [← hka] at hat x0
    subst hat
    clear hr hrg ho hxr hsec hall hka hgg hgc x1
    go_wp2_with (at_builtin; refine wpList_append_run rfl _ _ 37 rfl _ _ (.slice (some ⟨g', 0, none⟩) 32 cap) rfl rfl HRR.out ?_)
    go_ret2
    exact ⟨g', cap, rfl, HRG.out⟩
   ·have hat' : ¬ (((rs[j]).x.at_ : Nat) : Int) = (k : Int) := by omega
    have HALL : Hid (∀ q (hq : q < rs.length), (j : Int) - 1 < (q : Int) → (rs[q]).x.at_ ≠ k) := fun q hq hi => by
     by_cases e : q = j
     ·subst e; exact hat
     ·exact hall q hq (by omega)
    obtain ⟨ka, hka⟩ : ∃ ka, ka = (rs[j]).x.at_ := ⟨_, rfl⟩
    rw [← hka] at hat hat' x0
    clear hka hall x1
    go_wp2
    go_roundw
    case rel => exact ⟨(j : Int) - 1, by omega, by omega, by go_num, trivial, HALL.out⟩
    case measure => simp [intOf]
end Go.Proofs.YtlcglapcmdpkfaaGreat
