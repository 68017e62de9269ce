/-       -/
import Derived.Test.YtlcglapcmdpkfaaGreatGaj
import Derived.Deep.RegionLaw
import Derived.Test.YtlcglapcmdpkfaaGreatGag
import Derived.Test.YtlcglapcmdpkfaaGreatGaf
import Derived.RangeFuncNested
import Derived.RangeFuncBound
import Derived.RangeFuncCalls
import Derived.RangeFuncLeaves
import Derived.RangeFuncBox
import Derived.Shelf.Abstract
import Derived.Shelf.RegionOpen
import Derived.OwnWalkIn
import Derived.TacticsInMore
import Derived.LoopNIn
import Derived.LoopIn
import Derived.BigRegionIn
namespace Go.Proofs.YtlcglapcmdpkfaaGreat
open Go.RowKit
set_option linter.unusedSimpArgs false
set_option linter.unusedVariables false
set_option maxRecDepth 100000
set_option maxHeartbeats 16000000
theorem rnew_bad (n : Int) (w : World) (h : n < 1 ∨ 8192 < n) :
  Calls Tryz.prog 6 #[.int .i64 n] w fun e w' => e = .returned (.tuple #[.pointer none, .int .i64 2]) ∧ w' = w := by
 rcases h with h | h
 ·go_enter Tryz.func6, Tryz.ntmps6
  go_wp2
  go_ret2
  exact ⟨rfl, rfl⟩
 ·have h' : ¬ n < 1 := by omega
  go_enter Tryz.func6, Tryz.ntmps6
  go_wp2
  go_ret2
  exact ⟨rfl, rfl⟩
theorem rnew_core (n : Nat) (A : Array Value) (w : World) (h1 : (1 : Int) ≤ n) (h2 : (n : Int) ≤ 8192)
  (hmk : ∀ w, (Instr.makeSlice 37 (.int .i64 (n * 32)) (.int .i64 (n * 32))).run Tryz.prog w = .ok (.slice (some ⟨w.heap.size, 0, none⟩) (n * 32) (n * 32)) (w.alloc (.cells A 5))) :
  Calls Tryz.prog 6 #[.int .i64 n] w fun e w' => e = .returned (.tuple #[.pointer (some ⟨w.heap.size + 1, 0, none⟩), .int .i64 0]) ∧
   w' = (w.alloc (.cells A 5)).alloc (.cells #[.int .i64 n, .slice (some ⟨w.heap.size, 0, none⟩) (n * 32) (n * 32), .slice none 0 0, .int .i64 (-1)] 57) := by
 have h1' : ¬ (n : Int) < 1 := by omega
 have h2' : ¬ (8192 : Int) < n := by omega
 have hw : IntKind.i64.wrap ((n : Int) * 32) = (n : Int) * 32 := by rw [IntKind.wrap_i64]; omega
 go_enter Tryz.func6, Tryz.ntmps6
 go_wp2
 go_ret2
 exact ⟨rfl, rfl⟩
theorem rnew_ok (n : Nat) (w : World) (h1 : 1 ≤ n) (h2 : n ≤ 8192) :
  Calls Tryz.prog 6 #[.int .i64 n] w fun e w' => e = .returned (.tuple #[.pointer (some ⟨w.heap.size + 1, 0, none⟩), .int .i64 0]) ∧
   RefAt w' w.heap.size (w.heap.size + 1) w.heap.size (.slice none 0 0) ⟨n, fun _ _ => 0, [], -1⟩ [] ∧ Only (fun _ => False) w w' := by
 obtain ⟨i0, hi0, hz0, hz1, hz2⟩ := info_parts info5
 refine (rnew_core n (madeCells (Value.int .u8 0).cells (n * 32)) w (by omega) (by omega) (fun w => ?_)).mono ?_
 ·have := run_make (P := Tryz.prog) w 37 5 i0 _ Tryz.underlying37 hi0 hz0 .i64 .i64 ((n : Int) * 32) ((n : Int) * 32) (by omega) (Int.le_refl _) (by rw [hz2]; omega) (by omega)
  rw [hz1, show ((n : Int) * 32).toNat = n * 32 by omega, Nat.mul_one] at this
  exact this
 rintro e w' ⟨rfl, rfl⟩
 refine ⟨rfl, ?_, ((Only.refl _ w).alloc _).alloc _⟩
 have hS := heap_alloc2_old w (.cells (madeCells (Value.int .u8 0).cells (n * 32)) 5) (.cells #[.int .i64 n, .slice (some ⟨w.heap.size, 0, none⟩) (n * 32) (n * 32), .slice none 0 0, .int .i64 (-1)] 57)
 have hp := heap_alloc2_new w (.cells (madeCells (Value.int .u8 0).cells (n * 32)) 5) (.cells #[.int .i64 n, .slice (some ⟨w.heap.size, 0, none⟩) (n * 32) (n * 32), .slice none 0 0, .int .i64 (-1)] 57)
 have hcell : ∀ j, j < n * 32 → (madeCells (Value.int .u8 0).cells (n * 32))[j]? = some (.int .u8 0) := by
  intro j hj
  simp [madeCells, hj, Value.cells, Nat.mod_one]
 exact { rB := by omega, KB := by omega, rK := by omega
         c0 := by rw [cell_of_row _ _ 0 _ _ _ hp]; rfl
         c1 := by rw [cell_of_row _ _ 1 _ _ _ hp]; rfl
         c2 := by rw [cell_of_row _ _ 2 _ _ _ hp]; rfl
         c3 := by rw [cell_of_row _ _ 3 _ _ _ hp]; rfl
         f2 := frozen_of_row _ _ _ _ _ hp
         f3 := frozen_of_row _ _ _ _ _ hp
         kept := fun j v hv => by
          obtain ⟨hj, hv⟩ := List.getElem?_eq_some_iff.1 hv
          simp only [allL, List.length_map, List.length_range] at hj
          simp only [allL, List.getElem_map, List.getElem_range] at hv
          rw [Nat.zero_add, cell_of_row _ _ _ _ _ _ hS, hcell _ hj, ← hv]; rfl
         kth := fun j hj => by
          rw [Nat.zero_add]
          refine ⟨?_, frozen_of_row _ _ _ _ _ hS⟩
          rw [cell_of_row _ _ _ _ _ _ hS, hcell _ hj]; rfl
         own := World.ownsRow_nil _ _ _ _
         hr := by simp [Value.ownBlock]
         hK := by simp [Value.ownBlock]
         tie := rfl
         at_ := fun x hx => by cases hx
         bd := fun x hx => by cases hx
         n1 := h1, n2 := h2
         l1 := by simp
         l2 := by simp }
theorem rread_dead (r : Nat) (k : Int) (w : World) (h3 : w.cell? ⟨r, 3, none⟩ = some (.int .i64 0)) :
  Calls Tryz.prog 9 #[.pointer (some ⟨r, 0, none⟩), .int .i64 k] w fun e w' => e = .returned (.tuple #[.slice none 0 0, .int .i64 3]) ∧ w' = w := by
 go_enter Tryz.func9, Tryz.ntmps9
 go_wp2
 go_ret2
 exact ⟨rfl, rfl⟩
theorem app_copy0 (t e : TypeId) (i : TypeInfo) (z : Value) (bytes : Nat) (ht : Tryz.prog.underlying t = some (.slice e)) (hi : Tryz.prog.info? e = some i) (hz : i.zero = some z) (hsize : i.size = 1) (hby : i.bytes = bytes) (hzs : z.cells.size = 1) (hb1 : bytes = 1)
  (w : World) (v : Value) (m : Nat) (f : Nat → Value) (hv : (v = .slice none 0 0 ∧ m = 0) ∨ ∃ ad c, v = .slice (some ad) m c ∧ ∀ j, j < m * 1 → w.cell? (ad.add j) = some (f j)) (ho : ∀ j, (f j).oneCell' = true) (hm : m ≤ 140737488355328) :
  ∃ a cap w', (∀ ty, (Builtin.append_ #[t, t] ty #[.slice (some ⟨w.heap.size, 0, none⟩) 0 0, v]).run Tryz.prog (w.alloc (.cells #[] e)) = .ok (.slice a m cap) w') ∧ w'.ownsRow w.heap.size e 1 (.slice a m cap) m ((List.range m).map f) ∧ Only (fun _ => False) w w' := by
 have hown : (w.alloc (.cells #[] e)).ownsRow w.heap.size e 1 (.slice (some ⟨w.heap.size, 0, none⟩) 0 0) 0 [] := World.ownsRow_made w #[] 0 (Nat.le_refl _) (Nat.zero_le _) rfl
 have oA : Only (fun _ => False) w (w.alloc (.cells #[] e)) := (Only.refl _ w).alloc _
 rcases hv with ⟨rfl, rfl⟩ | ⟨ad, c, rfl, hc⟩
 ·exact ⟨some ⟨w.heap.size, 0, none⟩, 0, _, fun ty => run_append_owned_none _ w.heap.size t ty e i 1 ht hi _ 0 [] hown, by simpa using hown, oA⟩
 ·have hnews : ∀ j u, ((List.range m).map f)[j]? = some u → (w.alloc (.cells #[] e)).cell? (ad.add j) = some u := fun j u hu => by
   have hj : j < m := by have := (List.getElem?_eq_some_iff.1 hu).1; simpa using this
   simp [hj] at hu
   rw [← hu]
   exact oA.cell (hc j (by omega)) (fun e => e)
  have h1 : ∀ u ∈ (List.range m).map f, u.oneCell' = true := fun u hu => by obtain ⟨j, _, rfl⟩ := List.mem_map.1 hu; exact ho j
  have key := fun ty => run_append_own_at (P := Tryz.prog) (w.alloc (.cells #[] e)) w.heap.size t ty e i z 1 bytes ht hi hz hsize hby hzs (by omega) _ 0 [] hown ad m c ((List.range m).map f) (by simp) hnews h1 (by unfold maxLen; omega) (by subst hb1; omega) (by simp)
  obtain ⟨v', w', hr, own', hg, _, _⟩ := key 0
  obtain ⟨a, cap, rfl⟩ := ownsRow_slice own'
  rw [Nat.zero_add] at own' hr
  refine ⟨a, cap, w', fun ty => ?_, by simpa using own', oA.grown hg (fun k e hk => by simp [Value.ownBlock] at e; omega)⟩
  rw [← hr]
  rfl
theorem copy32 (w : World) (g o c : Nat) (f : Nat → Int) (h : w.rangeAt g o (secL f)) :
  ∃ g' cap w', (∀ ty, (Builtin.append_ #[37, 37] ty #[.slice (some ⟨w.heap.size, 0, none⟩) 0 0, .slice (some ⟨g, o, none⟩) 32 c]).run Tryz.prog (w.alloc (.cells #[] 5)) = .ok (.slice (some ⟨g', 0, none⟩) 32 cap) w') ∧ w'.rangeAt g' 0 (secL f) ∧ w.heap.size ≤ g' ∧ g' < w'.heap.size ∧ Only (fun _ => False) w w' := by
 obtain ⟨i0, hi0, hz0, hz1, hz2⟩ := info_parts info5
 obtain ⟨a, cap, w', hr, own, ho⟩ := app_copy0 37 5 i0 _ 1 Tryz.underlying37 hi0 hz0 hz1 hz2 rfl rfl w (.slice (some ⟨g, o, none⟩) 32 c) 32 (fun j => .int .u8 (f j)) (.inr ⟨_, c, rfl, fun j hj => by rw [Addr.add_mid]; exact h j _ (secL_get f j (by omega))⟩) (fun j => rfl) (by omega)
 obtain ⟨g', cap', hv, h1, h2⟩ := own.form (by omega)
 simp only [Value.slice.injEq] at hv
 obtain ⟨rfl, _, rfl⟩ := hv
 refine ⟨g', cap, w', hr, fun j v hv => ?_, h1, h2, ho⟩
 have hj : j < 32 := by have := (List.getElem?_eq_some_iff.1 hv).1; rwa [secL_length] at this
 rw [Nat.zero_add, own.cellAt j (by omega)]
 exact hv
def RdIs (w w' : World) (e : Ending) (f : Nat → Int) : Prop := ∃ g cap, e = .returned (.tuple #[.slice (some ⟨g, 0, none⟩) 32 cap, .int .i64 0]) ∧ w'.rangeAt g 0 (secL f) ∧ Only (fun _ => False) w w'
theorem rread_any {w : World} {B r K : Nat} {pv : Value} {d : DS} {rs : List RW} (h : RefAt w B r K pv d rs) (hg : Good d) (hl : d.life ≠ 0) (hlen : d.pend.length ≤ 140737488351232) (k : Nat) (hk : k < d.n) :
  Calls Tryz.prog 9 #[.pointer (some ⟨r, 0, none⟩), .int .i64 k] w fun e w' => RdIs w w' e (d.sec k) := by
 obtain ⟨a, c, hpv⟩ := h.form
 subst hpv
 have HR : Hid (RefAt w B r K (.slice a rs.length c) d rs) := h
 have HG : Hid (Good d) := hg
 have c0 := h.c0
 have c1 := h.c1
 have c2 := h.c2
 have c3 := h.c3
 have hrl := h.len
 have hn2 := h.n2
 have hlz : (d.life == 0) = false := by simpa using hl
 obtain ⟨m, hm⟩ : ∃ m, m = rs.length := ⟨_, rfl⟩
 have hm2 : m ≤ 140737488351232 := by omega
 have HM : Hid (m = rs.length) := hm
 have HRL : Hid (rs.length = d.pend.length) := hrl
 rw [← hm] at c2
 clear hm hrl
 have oE : Only (fun _ => False) w (w.alloc (.cells #[] 5)) := (Only.refl _ w).alloc _
 have OE : Hid (Only (fun _ => False) w (w.alloc (.cells #[] 5))) := oE
 have e1 := oE.cell c1 (fun e => e)
 have e2 := oE.cell c2 (fun e => e)
 clear oE
 have k0 : ¬ (k : Int) < 0 := by omega
 have k1 : ¬ (d.n : Int) ≤ (k : Int) := by omega
 have hem := empty23
 clear h hg
 go_enter Tryz.func9, Tryz.ntmps9
 go_wp2_with fail
 go_loopw [6] (fun t wr => ∃ i : Int, -1 ≤ i ∧ i < m ∧ t = .int .i64 i ∧ w = wr ∧ ∀ j (hj : j < rs.length), i < (j : Int) → (rs[j]).x.at_ ≠ k) (fun t _ => (intOf t + 1).toNat)
 case atStart => exact ⟨(m : Int) - 1, by omega, by omega, by first | rfl | go_num, rfl, fun j hj hi => by have := HM.out; omega⟩
 case round =>
  obtain ⟨i, hi1, hi2, rfl, rfl, hall⟩ := hrel
  by_cases hneg : i < 0
  ·obtain rfl : i = -1 := by omega
   have hsec : d.sec k = undoW d.pend d.sec k := by
    have h1 := congrFun HG.out k
    rw [← h1]
    exact doAll_keep _ _ _ (fun x hx => by
     rw [← HR.out.tie] at hx
     obtain ⟨y, hy, rfl⟩ := List.mem_map.1 hx
     obtain ⟨j, hj, rfl⟩ := List.getElem_of_mem hy
     exact hall j hj (by omega))
   have hsrc : w.rangeAt K (k * 32) (secL (d.sec k)) := fun j v hv => by
    have hj : j < 32 := by have := (List.getElem?_eq_some_iff.1 hv).1; rwa [secL_length] at this
    rw [secL_get _ _ hj] at hv
    have := HR.out.kept (k * 32 + j) (.int .u8 (undoW d.pend d.sec k j)) (allL_get _ _ k j hk hj)
    rw [Nat.zero_add] at this
    rw [this, ← hv, hsec]
   obtain ⟨g', cap, w', hr, hrg, hg1, hg2, ho⟩ := copy32 w K (k * 32) (d.n * 32 - k * 32) (d.sec k) hsrc
   have HRR : Hid _ := hr
   have HRG : Hid (w'.rangeAt g' 0 (secL (d.sec k)) ∧ Only (fun _ => False) w w') := ⟨hrg, ho⟩
   clear hr hrg ho hsrc hsec hall
   have q1 : IntKind.i64.wrap ((k : Int) * 32) = (k : Int) * 32 := by rw [IntKind.wrap_i64]; omega
   have q2 : IntKind.i64.wrap ((k : Int) + 1) = (k : Int) + 1 := by rw [IntKind.wrap_i64]; omega
   have q3 : IntKind.i64.wrap (((k : Int) + 1) * 32) = ((k : Int) + 1) * 32 := by rw [IntKind.wrap_i64]; omega
   have q4 : (0 : Int) ≤ (k : Int) * 32 := by omega
   have q5 : (k : Int) * 32 ≤ ((k : Int) + 1) * 32 := by omega
   have q6 : ((k : Int) + 1) * 32 ≤ (d.n : Int) * 32 := by omega
   have q7 : ((k : Int) * 32).toNat = k * 32 := by omega
   have q8 : (((k : Int) + 1) * 32).toNat = (k + 1) * 32 := by omega
   have q9 : (k + 1) * 32 - k * 32 = 32 := by omega
   go_wp2_with (at_builtin; refine wpList_append_run rfl _ _ 37 rfl _ _ (.slice (some ⟨g', 0, none⟩) 32 cap) rfl rfl HRR.out ?_)
   go_ret2
   exact ⟨g', cap, rfl, HRG.out⟩
  ·obtain ⟨j, rfl⟩ : ∃ j : Nat, i = (j : Int) := ⟨i.toNat, by omega⟩
   have j0 : (0 : Int) ≤ (j : Int) := Int.natCast_nonneg _
   have hjr : j < rs.length := by have := HM.out; omega
   obtain ⟨g, hga, x0, x1, hgr, hgK⟩ := HR.out.get j hjr
   subst hga
   by_cases hat : (rs[j]).x.at_ = k
   ·have hsec : d.sec k = (rs[j]).x.aft := by
     have hjd : j < d.pend.length := by have := HRL.out; omega
     have hx : ∀ q (hq : q < rs.length) (hq' : q < d.pend.length), (rs[q]).x = d.pend[q] := fun q hq hq' => by
      have := HR.out.tie
      simp only [← this, List.getElem_map]
     have h1 := congrFun HG.out (d.pend[j]).at_
     rw [doAll_last _ _ j hjd (fun q hq hlt => by
      have hq' : q < rs.length := by have := HRL.out; omega
      rw [← hx q hq' hq, ← hx j hjr hjd, hat]; exact hall q hq' (by omega)), ← hx j hjr hjd, hat] at h1
     exact h1.symm
    obtain ⟨_, hxr, _⟩ := HR.out.at_ _ (List.getElem_mem hjr)
    rw [← hsec] at hxr
    obtain ⟨g', cap, w', hr, hrg, hg1, hg2, ho⟩ := copy32 w (rs[j]).g 0 (rs[j]).c (d.sec k) hxr
    have HRR : Hid _ := hr
    have HRG : Hid (w'.rangeAt g' 0 (secL (d.sec k)) ∧ Only (fun _ => False) w w') := ⟨hrg, ho⟩
    have z1 := OE.out.cell x1 (fun e => e)
    obtain ⟨ka, hka⟩ : ∃ ka, ka = (rs[j]).x.at_ := ⟨_, rfl⟩
    obtain ⟨gg, hgg⟩ : ∃ k, k = (rs[j]).g := ⟨_, rfl⟩
    obtain ⟨gc, hgc⟩ : ∃ k, k = (rs[j]).c := ⟨_, rfl⟩
    rw [← hgg, ← hgc] at HRR z1
    rw [← hka] at hat x0
    subst hat
    clear hr hrg ho hxr hsec hall hka hgg hgc x1
    go_wp2_with (at_builtin; refine wpList_append_run rfl _ _ 37 rfl _ _ (.slice (some ⟨g', 0, none⟩) 32 cap) rfl rfl HRR.out ?_)
    go_ret2
    exact ⟨g', cap, rfl, HRG.out⟩
   ·have hat' : ¬ (((rs[j]).x.at_ : Nat) : Int) = (k : Int) := by omega
    have HALL : Hid (∀ q (hq : q < rs.length), (j : Int) - 1 < (q : Int) → (rs[q]).x.at_ ≠ k) := fun q hq hi => by
     by_cases e : q = j
     ·subst e; exact hat
     ·exact hall q hq (by omega)
    obtain ⟨ka, hka⟩ : ∃ ka, ka = (rs[j]).x.at_ := ⟨_, rfl⟩
    rw [← hka] at hat hat' x0
    clear hka hall x1
    go_wp2
    go_roundw
    case rel => exact ⟨(j : Int) - 1, by omega, by omega, by go_num, trivial, HALL.out⟩
    case measure => simp [intOf]
theorem infoPg : (Tryz.prog.info? 103).map (fun i => (i.zero, i.size, i.bytes)) = some (some (.agg #[.int .i64 0, .int .i64 0, .slice none 0 0]), 3, 40) := by kernel_rfl
theorem rpgL_one {w : World} {l : List RPg} (h : ∀ y ∈ l, BytesAt w y.v y.b) : ∀ u ∈ rpgL l, u.oneCell' = true := by
 intro u hu
 simp only [rpgL, List.mem_flatMap] at hu
 obtain ⟨y, hy, hu⟩ := hu
 obtain ⟨a, c, e, _⟩ := (h y hy).form
 simp only [RPg.cells, e, List.mem_cons, List.not_mem_nil, or_false] at hu
 rcases hu with rfl | rfl | rfl <;> rfl
theorem PgsAt.app {w : World} {B : Nat} {C : Nat → Prop} {nv : Value} {l : List RPg} (h : PgsAt w B (fun k => C k ∨ nv.ownBlock = some k) nv l) (hC : ∀ k, C k → k < w.heap.size) (hB : B ≤ w.heap.size) (v2 : Value) (news : List RPg)
  (hs : (v2 = .slice none 0 0 ∧ news = []) ∨ ∃ a c, v2 = .slice (some a) news.length c ∧ ∀ j u, (rpgL news)[j]? = some u → w.cell? (a.add j) = some u)
  (hd : ∀ y ∈ news, BytesAt w y.v y.b ∧ ∀ b, y.v.ownBlock = some b → b < w.heap.size ∧ ¬ (C b ∨ nv.ownBlock = some b)) (hl : l.length + news.length ≤ 1000000) :
  ∃ a' c' w', (∀ ty, (Builtin.append_ #[95, 95] ty #[nv, v2]).run Tryz.prog w = .ok (.slice a' (l.length + news.length) c') w') ∧ PgsAt w' B (fun k => C k ∨ (Value.slice a' (l.length + news.length) c').ownBlock = some k) (.slice a' (l.length + news.length) c') (l ++ news) ∧ Only (fun b => nv.ownBlock = some b) w w' ∧ (∀ b, (Value.slice a' (l.length + news.length) c').ownBlock = some b → nv.ownBlock = some b ∨ w.heap.size ≤ b) := by
 obtain ⟨i, hi, hz0, hz1, hz2⟩ := info_parts infoPg
 rcases hs with ⟨rfl, rfl⟩ | ⟨a, c, rfl, hc⟩
 ·obtain ⟨a', c', rfl, hcc⟩ := h.form
  refine ⟨a', c', w, fun ty => run_append_owned_none _ B 95 ty 103 i 3 Tryz.underlying95 hi _ l.length (rpgL l) h.own, ?_, Only.refl _ _, fun b hb => .inl hb⟩
  simpa using h
 ·have key := fun ty => run_append_own_at (P := Tryz.prog) w B 95 ty 103 i _ 3 40 Tryz.underlying95 hi hz0 hz1 hz2 rfl (by omega) nv l.length (rpgL l) h.own a news.length c (rpgL news) (rpgL_length _) hc (rpgL_one (fun y hy => (hd y hy).1)) (by unfold maxLen; omega) (by omega) hB
  obtain ⟨v', w', hr, own', hg, _, hb⟩ := key 0
  obtain ⟨a', c', rfl⟩ := ownsRow_slice own'
  have ho : Only (fun b => nv.ownBlock = some b) w w' := (Only.refl _ w).grown hg (fun b hb _ => hb)
  have hbb : ∀ b, (Value.slice a' (l.length + news.length) c').ownBlock = some b → nv.ownBlock = some b ∨ w.heap.size ≤ b := fun b e => by
   rcases hb with q | q
   ·rw [q] at e; exact .inl e
   ·rw [q] at e; simp at e; exact .inr (by omega)
  have keep : ∀ y : RPg, (BytesAt w y.v y.b ∧ ∀ b, y.v.ownBlock = some b → b < w.heap.size ∧ ¬ (C b ∨ nv.ownBlock = some b)) → BytesAt w' y.v y.b ∧ ∀ b, y.v.ownBlock = some b → b < w'.heap.size ∧ ¬ (C b ∨ (Value.slice a' (l.length + news.length) c').ownBlock = some b) := fun y hy =>
   ⟨hy.1.keep ho (fun b e e' => (hy.2 b e).2 (.inr e')), fun b e => ⟨Nat.lt_of_lt_of_le (hy.2 b e).1 ho.size, fun e' => by
    rcases e' with e' | e'
    ·exact (hy.2 b e).2 (.inl e')
    ·rcases hbb b e' with q | q
     ·exact (hy.2 b e).2 (.inr q)
     ·have := (hy.2 b e).1; omega⟩⟩
  refine ⟨a', c', w', fun ty => by rw [← hr]; rfl, ⟨?_, fun y hy => ?_⟩, ho, hbb⟩
  ·rw [rpgL_append, List.length_append]; exact own'
  ·rcases List.mem_append.1 hy with hy | hy
   ·exact keep y (h.dat y hy)
   ·exact keep y (hd y hy)
section
variable {l : Pgs} {i : Int}
theorem Rise.tail {p : Int × Nat × List Nat} {r : Pgs} (h : Rise (p :: r)) : Rise r ∧ ∀ q ∈ r, p.1 < q.1 := by
 simp only [Rise, List.pairwise_cons] at h
 exact ⟨h.2, h.1⟩
theorem isAt_cons (p : Int × Nat × List Nat) (r : Pgs) (i : Int) : isAt (p :: r) i = if p.1 < i then isAt r i else (p.1 == i) := by
 unfold isAt
 by_cases hp : p.1 < i
 ·simp [fi, hp]
 ·simp [fi, hp]
theorem get_fi : ∀ {l : Pgs}, Rise l → getL l i = if isAt l i then (l[fi l i]?).map (·.2) else none
 | [], _ => by simp [getL, isAt, fi]
 | p :: r, h => by
   obtain ⟨h1, h2⟩ := h.tail
   have ih := get_fi h1
   rw [isAt_cons]
   by_cases hp : p.1 < i
   ·rw [if_pos hp]
    have e : getL (p :: r) i = getL r i := by
     have hn : (p.1 == i) = false := by simp; omega
     simp [getL, List.find?_cons, hn]
    rw [e, ih]
    simp [fi, hp]
   ·rw [if_neg hp]
    by_cases hi : p.1 = i
    ·simp [getL, List.find?_cons, hi, fi]
    ·have hn : (p.1 == i) = false := by simpa using hi
     rw [hn]
     simp only [Bool.false_eq_true, if_false, getL, Option.map_eq_none_iff, List.find?_eq_none]
     intro q hq
     rcases List.mem_cons.1 hq with rfl | hq
     ·simpa using hi
     ·have := h2 q hq; simp; omega
theorem del_id : ∀ {l : Pgs}, (∀ q ∈ l, i < q.1) → delL l i = l := fun {l} h => by
 unfold delL
 rw [List.filter_eq_self]
 intro q hq
 have := h q hq
 simp; omega
theorem ins_front {v : Nat × List Nat} : ∀ {l : Pgs}, (∀ q ∈ l, i < q.1) → insL (i, v) l = (i, v) :: l
 | [], _ => rfl
 | p :: r, h => by simp [insL, h p (List.mem_cons_self ..)]
theorem del_at : ∀ {l : Pgs}, Rise l → isAt l i = true → delL l i = l.take (fi l i) ++ l.drop (fi l i + 1)
 | [], _, h => by simp [isAt, fi] at h
 | p :: r, h, ha => by
   obtain ⟨h1, h2⟩ := h.tail
   rw [isAt_cons] at ha
   by_cases hp : p.1 < i
   ·rw [if_pos hp] at ha
    have ih := del_at h1 ha
    have hn : (p.1 == i) = false := by simp; omega
    simp only [fi, hp, if_true, List.take_succ_cons, List.drop_succ_cons, List.cons_append, ← ih]
    simp [delL, hn]
   ·rw [if_neg hp] at ha
    have hi : p.1 = i := by simpa using ha
    have e : fi (p :: r) i = 0 := by simp [fi, hp]
    rw [e]
    simp only [List.take_zero, List.nil_append, List.drop_succ_cons, List.drop_zero]
    have : delL (p :: r) i = delL r i := by simp [delL, hi]
    rw [this]
    exact del_id (fun q hq => by have := h2 q hq; omega)
theorem put_at {v : Nat × List Nat} : ∀ {l : Pgs}, Rise l → isAt l i = true → putL l i v = l.set (fi l i) (i, v)
 | [], _, h => by simp [isAt, fi] at h
 | p :: r, h, ha => by
   obtain ⟨h1, h2⟩ := h.tail
   rw [isAt_cons] at ha
   by_cases hp : p.1 < i
   ·rw [if_pos hp] at ha
    have ih := put_at (v := v) h1 ha
    have hn : (p.1 == i) = false := by simp; omega
    have e : putL (p :: r) i v = p :: putL r i v := by
     have hng : ¬ i < p.1 := by omega
     simp [putL, delL, hn, insL, hng]
    rw [e, ih]
    simp [fi, hp]
   ·rw [if_neg hp] at ha
    have hi : p.1 = i := by simpa using ha
    have e : fi (p :: r) i = 0 := by simp [fi, hp]
    rw [e]
    have hh : ∀ q ∈ r, i < q.1 := fun q hq => by have := h2 q hq; omega
    have : putL (p :: r) i v = insL (i, v) (delL r i) := by simp [putL, delL, hi]
    rw [this, del_id hh, ins_front hh]
    rfl
theorem put_not {v : Nat × List Nat} : ∀ {l : Pgs}, Rise l → isAt l i = false → putL l i v = l.take (fi l i) ++ [(i, v)] ++ l.drop (fi l i)
 | [], _, _ => rfl
 | p :: r, h, ha => by
   obtain ⟨h1, h2⟩ := h.tail
   rw [isAt_cons] at ha
   by_cases hp : p.1 < i
   ·rw [if_pos hp] at ha
    have ih := put_not (v := v) h1 ha
    have hn : (p.1 == i) = false := by simp; omega
    have e : putL (p :: r) i v = p :: putL r i v := by
     have hng : ¬ i < p.1 := by omega
     simp [putL, delL, hn, insL, hng]
    rw [e, ih]
    simp [fi, hp]
   ·rw [if_neg hp] at ha
    have hi : ¬ p.1 = i := by simpa using ha
    have e : fi (p :: r) i = 0 := by simp [fi, hp]
    rw [e]
    have hh : ∀ q ∈ p :: r, i < q.1 := fun q hq => by
     rcases List.mem_cons.1 hq with rfl | hq
     ·omega
     ·have := h2 q hq; omega
    unfold putL
    rw [del_id hh, ins_front hh]
    rfl
end
section
variable {w : World} {rk : Nat → Prop} {B r q : Nat} {tv kv nv : Value} {x : SS} {lk ln : List RPg}
def rgE (x : SS) (i : Int) : Int := if badE i ≠ 0 then 4 else if isAt x.now i then 0 else 6
theorem rget_any (h : RsAt w rk B r q tv kv nv x lk ln) (i : Int) :
  Calls Tryz.prog 17 #[.pointer (some ⟨r, 0, none⟩), .int .i64 i] w fun e w' => ∃ u b, e = .returned (.tuple #[u, .int .i64 (rgE x i)]) ∧ Hid (BytesAt w' u b ∧ Only (fun _ => False) w w' ∧ (rgE x i = 0 → (x.now[fi x.now i]?).map (·.2.2) = some b) ∧ (rgE x i ≠ 0 → b = [])) := by
 have HB := rbad_any r i w h.c6
 have HF := find_any h i
 have c5 := h.c5
 have c5d := h.c5
 obtain ⟨a, c, hnv, hcc⟩ := h.now.form
 have hnl := h.nowLen
 have HH : Hid (RsAt w rk B r q tv kv nv x lk ln) := h
 have HW : Hid (rgE x i = if badE i ≠ 0 then 4 else if isAt x.now i then 0 else 6) := rfl
 have nil0 : Hid (∀ w : World, BytesAt w (.slice none 0 0) []) := fun w => ⟨.inl ⟨rfl, rfl⟩, by simp, by simp⟩
 obtain ⟨n, hn⟩ : ∃ n, n = ln.length := ⟨_, rfl⟩
 rw [← hn] at hnv
 subst hnv
 clear h
 by_cases hb : badE i = 0
 ·rw [hb] at HB
  rw [if_neg (by simpa using hb)] at HW
  have HB' : Hid (Calls Tryz.prog 52 _ _ _) := HB
  cases hi : isAt x.now i
  ·rw [hi] at HF HW
   have HFF : Hid (Calls Tryz.prog 53 _ _ _) := HF
   have e6 : rgE x i = 6 := HW.out
   rw [e6]
   clear HB HF HW hi hb hcc hnl hn e6
   go_enter Tryz.func17, Tryz.ntmps17
   go_wp2_with fail
   refine (show Calls Tryz.prog 52 _ _ _ from HB'.out).mono ?_
   rintro e w1 ⟨rfl, rfl⟩
   go_wp2_with fail
   refine (show Calls Tryz.prog 53 _ _ _ from HFF.out).mono ?_
   rintro e w2 ⟨rfl, ho⟩
   have HO : Hid (Only (fun _ => False) w1 w2) := ho
   clear ho
   go_wp2
   go_ret2
   exact ⟨_, [], rfl, nil0.out _, HO.out, fun e => by omega, fun _ => rfl⟩
  ·rw [hi] at HF HW
   have HFF : Hid (Calls Tryz.prog 53 _ _ _) := HF
   have e6 : rgE x i = 0 := HW.out
   rw [e6]
   obtain ⟨k, hk⟩ : ∃ k, k = fi x.now i := ⟨_, rfl⟩
   have hkx : k < x.now.length := by
    unfold isAt at hi
    rw [← hk] at hi
    rcases Nat.lt_or_ge k x.now.length with h1 | h1
    ·exact h1
    ·rw [List.getElem?_eq_none h1] at hi; cases hi
   have hkl : k < ln.length := by omega
   rw [← hk] at HFF
   rw [← hk]
   obtain ⟨g, hga, z0, z1, z2⟩ := (show PgsAt w B _ (.slice a n c) ln from HH.out.now).at k hkl
   subst hga
   have i0 : (0 : Int) ≤ (k : Int) := Int.natCast_nonneg _
   have i1 : (k : Int) < (n : Int) := by omega
   obtain ⟨v, hv⟩ : ∃ v, v = (ln[k]).v := ⟨_, rfl⟩
   rw [← hv] at z2
   have hvb := (HH.out.now.dat _ (List.getElem_mem hkl)).1
   obtain ⟨av, cv, hvf, _⟩ := hvb.form
   rw [← hv] at hvb hvf
   obtain ⟨nb, hnb⟩ : ∃ nb, nb = (ln[k]).b.length := ⟨_, rfl⟩
   rw [← hnb] at hvf
   have HV : Hid (BytesAt w v (ln[k]).b ∧ (x.now[k]?).map (·.2.2) = some (ln[k]).b) := by
    refine ⟨hvb, ?_⟩
    have := HH.out.nowE
    rw [← this, List.getElem?_map, List.getElem?_eq_getElem hkl]
    rfl
   clear HB HF HW hi hb hcc hnl hn e6 hk hkx hv hvb hnb
   subst hvf
   go_enter Tryz.func17, Tryz.ntmps17
   go_wp2_with fail
   refine (show Calls Tryz.prog 52 _ _ _ from HB'.out).mono ?_
   rintro e w1 ⟨rfl, rfl⟩
   go_wp2_with fail
   refine (show Calls Tryz.prog 53 _ _ _ from HFF.out).mono ?_
   rintro e w2 ⟨rfl, ho⟩
   have y5 := ho.cell c5 (fun e => e)
   have y2 := ho.cell z2 (fun e => e)
   have HO : Hid (Only (fun _ => False) w1 w2) := ho
   clear ho c5 z2 z0 z1 c5d
   go_wp2
   go_ret2
   exact ⟨_, (ln[k]).b, rfl, HV.out.1.frame HO.out, HO.out, fun _ => HV.out.2, fun e => absurd rfl e⟩
 ·have hbe : badE i = 4 := by unfold badE at *; split at hb <;> simp_all
  rw [hbe] at HB
  have e6 : rgE x i = 4 := by rw [HW.out, if_pos (by omega)]
  have HB' : Hid (Calls Tryz.prog 52 _ _ _) := HB
  rw [e6]
  clear HB HF HW hb hcc hnl hn e6 hbe
  go_enter Tryz.func17, Tryz.ntmps17
  go_wp2_with fail
  refine (show Calls Tryz.prog 52 _ _ _ from HB'.out).mono ?_
  rintro e w1 ⟨rfl, rfl⟩
  go_wp2
  go_ret2
  exact ⟨_, [], rfl, nil0.out _, Only.refl _ _, fun e => by omega, fun _ => rfl⟩
theorem rget_dead (r : Nat) (i : Int) (w : World) (h : w.cell? ⟨r, 6, none⟩ = some (.bool true)) :
  Calls Tryz.prog 17 #[.pointer (some ⟨r, 0, none⟩), .int .i64 i] w fun e w' => e = .returned (.tuple #[.slice none 0 0, .int .i64 3]) ∧ w' = w := by
 have HB := rbad_dead r i w h
 go_enter Tryz.func17, Tryz.ntmps17
 go_wp2_with fail
 refine HB.mono ?_
 rintro e w1 ⟨rfl, rfl⟩
 go_wp2
 go_ret2
 exact ⟨rfl, rfl⟩
end
structure CpI (w wr : World) (l : List RPg) (k : Nat) (u : Value) (ys : List RPg) : Prop where
 pg : PgsAt wr w.heap.size (fun j => j < w.heap.size ∨ u.ownBlock = some j) u ys
 eq : ys.map RPg.p = (l.take k).map RPg.p
 ho : Only (fun _ => False) w wr
theorem CpI.len {w wr : World} {l : List RPg} {k : Nat} {u : Value} {ys : List RPg} (h : CpI w wr l k u ys) (hk : k ≤ l.length) : ys.length = k := by
 have := congrArg List.length h.eq
 simpa [Nat.min_eq_left hk] using this
theorem CpI.step {w wr : World} {l : List RPg} {k : Nat} {u : Value} {ys : List RPg} (h : CpI w wr l k u ys) (hk : k < l.length) (hl : l.length ≤ 1000) (hv : BytesAt wr (l[k]).v (l[k]).b) :
  ∃ a1 c1 w2 a3 c3 w3 ys', (∀ ty, (Builtin.append_ #[37, 37] ty #[.slice (some ⟨wr.heap.size, 0, none⟩) 0 0, (l[k]).v]).run Tryz.prog (wr.drew.alloc (.cells #[] 5)) = .ok (.slice a1 (l[k]).b.length c1) w2) ∧
    (∀ ty, (Builtin.append_ #[95, 95] ty #[u, .slice (some ⟨w2.heap.size, 0, none⟩) 1 1]).run Tryz.prog (w2.alloc (.cells #[.int .i64 (l[k]).i, .int .i64 ((l[k]).at_ : Nat), .slice a1 (l[k]).b.length c1] 103)) = .ok (.slice a3 (k + 1) c3) w3) ∧
    CpI w w3 l (k + 1) (.slice a3 (k + 1) c3) ys' ∧ Only (fun _ => False) wr w2 := by
 obtain ⟨i0, hi0, hz0, hz1, hz2⟩ := info_parts info5
 have oD : Only (fun _ => False) wr wr.drew := (Only.refl _ wr).drew
 obtain ⟨a1, c1, w2, hr1, own1, o2⟩ := app_copy 37 5 i0 _ 1 Tryz.underlying37 hi0 hz0 hz1 hz2 rfl rfl wr.drew (l[k]).v (l[k]).b.length _ (hv.frame oD).1 (fun j => rfl) hv.2.1
 rw [← BL_getD] at own1
 have hs1 : wr.drew.heap.size = wr.heap.size := rfl
 have o2' : Only (fun _ => False) wr w2 := oD.trans o2 (fun _ _ e => e)
 have hlen := h.len (Nat.le_of_lt hk)
 obtain ⟨wL, hwL⟩ : ∃ q, q = w2.alloc (.cells #[.int .i64 (l[k]).i, .int .i64 ((l[k]).at_ : Nat), .slice a1 (l[k]).b.length c1] 103) := ⟨_, rfl⟩
 have oL : Only (fun _ => False) w2 wL := by rw [hwL]; exact (Only.refl _ w2).alloc _
 have oL' := o2'.trans oL (fun _ _ e => e)
 have hws := h.ho.size
 have hpg : PgsAt wL w.heap.size (fun j => j < w.heap.size ∨ u.ownBlock = some j) u ys := h.pg.frame oL' (fun _ _ e => e) (fun _ _ e => e.elim) (fun _ _ e => e)
 have fr1 : Fresh wL wr.heap.size (.slice a1 (l[k]).b.length c1) (l[k]).b := Fresh.frame ⟨own1, hv.2⟩ oL
 obtain ⟨a3, c3, w3, hr3, hp3, ho3, hb3⟩ := hpg.app (C := fun j => j < w.heap.size) (fun j hj => by have := oL'.size; omega) (by have := oL'.size; omega) (.slice (some ⟨w2.heap.size, 0, none⟩) 1 1) [⟨(l[k]).i, (l[k]).at_, (l[k]).b, .slice a1 (l[k]).b.length c1⟩]
  (.inr ⟨_, 1, rfl, by rw [hwL]; exact World.news_of_block (heap_alloc_new w2 _)⟩)
  (fun y hy => by
   obtain rfl : y = ⟨(l[k]).i, (l[k]).at_, (l[k]).b, .slice a1 (l[k]).b.length c1⟩ := by simpa using hy
   refine ⟨fr1.bytes, fun b hb => ?_⟩
   have := fr1.1.lt b hb
   refine ⟨this.2, fun e => ?_⟩
   rcases e with e | e
   ·omega
   ·have := h.pg.lt b e; omega)
  (by simp only [List.length_cons, List.length_nil]; omega)
 simp only [List.length_cons, List.length_nil, Nat.zero_add, hlen] at hr3 hp3 hb3
 refine ⟨a1, c1, w2, a3, c3, w3, _, hr1, by rw [← hwL]; exact hr3, ⟨hp3, ?_, ?_⟩, o2'⟩
 ·rw [List.map_append, h.eq, List.take_succ_eq_append_getElem hk, List.map_append]
  rfl
 ·exact (h.ho.trans oL' (fun _ _ e => e)).trans ho3 (fun b hb e => by have := h.pg.lt b e; omega)
theorem copied_any (v : Value) (l : List RPg) (B0 : Nat) (av : Nat → Prop) (w : World) (h : PgsAt w B0 av v l) (hl : l.length ≤ 1000) :
  Calls Tryz.prog 62 #[v] w fun e w' => ∃ a c ys, e = .returned (.slice a l.length c) ∧ Hid (PgsAt w' w.heap.size (fun k => k < w.heap.size ∨ (Value.slice a l.length c).ownBlock = some k) (.slice a l.length c) ys ∧ ys.map RPg.p = l.map RPg.p ∧ Only (fun _ => False) w w') := by
 obtain ⟨a, c, hv, hc⟩ := h.form
 subst hv
 have HH : Hid (PgsAt w B0 av (.slice a l.length c) l) := h
 obtain ⟨n, hn⟩ : ∃ n, n = l.length := ⟨_, rfl⟩
 have HN : Hid (n = l.length) := hn
 rw [← hn]
 rw [← hn] at hc hl
 clear h hn
 have hem := empty23
 go_enter Tryz.func62, Tryz.ntmps62
 go_wp2_with fail
 go_loopw [3, 4] (fun u t wr => ∃ k : Nat, k ≤ n ∧ t = .int .i64 k ∧ Hid (∃ (a : Option Addr) (c : Nat) (ys : List RPg), u = .slice a k c ∧ CpI w wr l k (.slice a k c) ys)) (fun _ t _ => n - (intOf t).toNat)
 case atStart => exact ⟨0, Nat.zero_le _, rfl, none, 0, [], rfl, ⟨PgsAt.nil _ _ _, by simp, Only.refl _ _⟩⟩
 case round =>
  obtain ⟨k, hk, rfl, HI0⟩ := hrel
  obtain ⟨a2, c2, ys, rfl, hI0⟩ := HI0.out
  have HI : Hid (CpI w wr l k (.slice a2 k c2) ys) := hI0
  clear hI0 HI0
  obtain ⟨wq, rfl⟩ : ∃ q, q = wr := ⟨_, rfl⟩
  by_cases hlt : k < n
  ·have hkl : k < l.length := by rw [← HN.out]; exact hlt
   obtain ⟨g, hga, z0, z1, z2⟩ := HH.out.at k hkl
   subst hga
   have hvb : BytesAt wq (l[k]).v (l[k]).b := (HH.out.dat _ (List.getElem_mem hkl)).1.frame HI.out.ho
   obtain ⟨av2, cv2, hvf, hvr⟩ := hvb.form
   clear hvr
   obtain ⟨a1, c1, w2, a3, c3, w3, ys', hr1, hr2, hI, o2⟩ := HI.out.step hkl (by rw [← HN.out]; exact hl) hvb
   have y0 := HI.out.ho.cell z0 (fun e => e)
   have y1 := HI.out.ho.cell z1 (fun e => e)
   have y2 := HI.out.ho.cell z2 (fun e => e)
   obtain ⟨I, hI2⟩ : ∃ q, q = (l[k]).i := ⟨_, rfl⟩
   obtain ⟨A, hA2⟩ : ∃ q, q = (l[k]).at_ := ⟨_, rfl⟩
   obtain ⟨M, hM2⟩ : ∃ q, q = (l[k]).b.length := ⟨_, rfl⟩
   rw [hvf, ← hM2] at y2 hr1
   rw [← hI2] at y0 hr2
   rw [← hA2] at y1 hr2
   rw [← hM2] at hr2
   have oA : Only (fun _ => False) wq (wq.alloc (.cells #[] 5)) := (Only.refl _ wq).alloc _
   have q0 := oA.cell y0 (fun e => e)
   have q1 := oA.cell y1 (fun e => e)
   have q2 := oA.cell y2 (fun e => e)
   have s0 := o2.cell y0 (fun e => e)
   have s1 := o2.cell y1 (fun e => e)
   have s2 := o2.cell y2 (fun e => e)
   have oP : Only (fun _ => False) w2 (w2.alloc (.cells #[.int .i64 I, .int .i64 (A : Nat), .slice a1 M c1] 103)) := (Only.refl _ w2).alloc _
   have HS0 : Hid (wq.cell? ⟨g, k * 3, none⟩ = some (.int .i64 I) ∧ wq.cell? ⟨g, k * 3 + 1, none⟩ = some (.int .i64 (A : Nat)) ∧ wq.cell? ⟨g, k * 3 + 2, none⟩ = some (.slice av2 M cv2)) := ⟨y0, y1, y2⟩
   have HS1 : Hid (_ ∧ _ ∧ _) := ⟨q0, q1, q2⟩
   have HS2 : Hid (w2.cell? ⟨g, k * 3, none⟩ = some (.int .i64 I) ∧ w2.cell? ⟨g, k * 3 + 1, none⟩ = some (.int .i64 (A : Nat)) ∧ w2.cell? ⟨g, k * 3 + 2, none⟩ = some (.slice av2 M cv2)) := ⟨s0, s1, s2⟩
   have HS3 : Hid (_ ∧ _ ∧ _) := ⟨oP.cell s0 (fun e => e), oP.cell s1 (fun e => e), oP.cell s2 (fun e => e)⟩
   have HS4 : Hid (w3.cell? ⟨g, k * 3, none⟩ = some (.int .i64 I) ∧ w3.cell? ⟨g, k * 3 + 1, none⟩ = some (.int .i64 (A : Nat)) ∧ w3.cell? ⟨g, k * 3 + 2, none⟩ = some (.slice av2 M cv2)) := by
    have e3 : ∀ o v, w.cell? ⟨g, o, none⟩ = some v → w3.cell? ⟨g, o, none⟩ = some v := fun o v e => hI.ho.cell e (fun e => e)
    refine ⟨?_, ?_, ?_⟩
    ·rw [hI2]; exact e3 _ _ z0
    ·rw [hA2]; exact e3 _ _ z1
    ·rw [hM2, ← hvf]; exact e3 _ _ z2
   have HR1 : Hid _ := hr1
   have HR2 : Hid _ := hr2
   have HI3 : Hid (CpI w w3 l (k + 1) (.slice a3 (k + 1) c3) ys') := hI
   have i0 : (0 : Int) ≤ (k : Int) := Int.natCast_nonneg _
   have i1 : (k : Int) < (n : Int) := by omega
   clear hr1 hr2 hI o2 oA oP s0 s1 s2 q0 q1 q2 hvb hvf hI2 hA2 hM2 z0 z1 z2 hkl HI
   go_wp2_with fail
   go_region_held3 (fun w' => w'.cell? ⟨g, k * 3, none⟩ = some (.int .i64 I) ∧ w'.cell? ⟨g, k * 3 + 1, none⟩ = some (.int .i64 (A : Nat)) ∧ w'.cell? ⟨g, k * 3 + 2, none⟩ = some (.slice av2 M cv2)) (first | exact HS0.out | exact HS1.out | exact HS2.out | exact HS3.out | exact HS4.out | go_keep) (first | (refine step_append_run (by rfl) _ _ 37 (by rfl) _ _ (.slice a1 M c1) (by rfl) (by rfl) HR1.out ?_) | (refine step_append_run (by rfl) _ _ 95 (by rfl) _ _ (.slice a3 (k + 1) c3) (by rfl) (by rfl) HR2.out ?_) | (refine wp_append_run _ _ 37 (by rfl) _ _ (.slice a1 M c1) (by rfl) (by rfl) (HR1.out _) ?_) | (refine wp_append_run _ _ 95 (by rfl) _ _ (.slice a3 (k + 1) c3) (by rfl) (by rfl) (HR2.out _) ?_))
   all_goals
    go_wp2
    go_roundw
    case rel => exact ⟨k + 1, by omega, by go_num, ⟨a3, c3, ys', rfl, HI3.out⟩⟩
    case measure => simp [intOf]; omega
  ·obtain rfl : k = n := by omega
   have HF : Hid (PgsAt wq w.heap.size (fun j => j < w.heap.size ∨ (Value.slice a2 k c2).ownBlock = some j) (.slice a2 k c2) ys ∧ ys.map RPg.p = l.map RPg.p ∧ Only (fun _ => False) w wq) :=
    ⟨HI.out.pg, by rw [HI.out.eq, List.take_of_length_le (by rw [HN.out]; exact Nat.le_refl _)], HI.out.ho⟩
   clear HI
   go_wp2
   go_ret
   exact ⟨_, _, _, rfl, HF⟩
theorem PgsAt.less {w : World} {B B' : Nat} {av : Nat → Prop} {nv : Value} {l : List RPg} (h : PgsAt w B' av nv l) (hB : B ≤ B') : PgsAt w B av nv l := by
 refine ⟨⟨h.own.1, ?_⟩, h.dat⟩
 rcases h.own.2 with e | ⟨g, cap, cur, hv, hb, rest⟩
 ·exact .inl e
 ·exact .inr ⟨g, cap, cur, hv, by omega, rest⟩
theorem PgsAt.av {w : World} {B : Nat} {av av' : Nat → Prop} {nv : Value} {l : List RPg} (h : PgsAt w B av nv l) (ha : ∀ k, k < w.heap.size → av' k → av k) : PgsAt w B av' nv l :=
 ⟨h.own, fun y hy => ⟨(h.dat y hy).1, fun b e => ⟨((h.dat y hy).2 b e).1, fun e' => ((h.dat y hy).2 b e).2 (ha b ((h.dat y hy).2 b e).1 e')⟩⟩⟩
section
variable {w : World} {rk : Nat → Prop} {B r q : Nat} {tv kv nv : Value} {x : SS} {lk ln : List RPg}
theorem RsAt.setNow {w1 : World} (h : RsAt w rk B r q tv kv nv x lk ln) (hrk : ∀ k, rk k → k < w.heap.size) (ho : Only (fun b => nv.ownBlock = some b) w w1) (nv' : Value) (ln' : List RPg) (l' : Pgs)
  (hp : PgsAt w1 B (fun k => (k = r ∨ rk k) ∨ nv'.ownBlock = some k) nv' ln') (hnb : ∀ b, nv'.ownBlock = some b → nv.ownBlock = some b ∨ w.heap.size ≤ b)
  (he : ln'.map RPg.p = l') (hr : Rise l') (hw : ∀ p ∈ l', (0 ≤ p.1 ∧ p.1 < 728) ∧ (p.2.1 = 0 ∨ 2 ≤ p.2.1 ∧ p.2.1 < x.size) ∧ p.2.2.length ≤ 116) :
  RsAt (w1.setCell ⟨r, 5, none⟩ nv') rk B r q tv kv nv' { x with now := l' } lk ln' ∧ Only (fun b => nv.ownBlock = some b ∨ b = r) w (w1.setCell ⟨r, 5, none⟩ nv') := by
 have hlt := h.lt
 have oo : Only (fun b => nv.ownBlock = some b ∨ b = r) w (w1.setCell ⟨r, 5, none⟩ nv') := (ho.mono (fun _ _ e => .inl e)).setCell _ _ (fun _ => .inr rfl)
 have nr : ¬ nv.ownBlock = some r := fun e => (h.k2 r e).1 rfl
 have nr' : ∀ b, nv'.ownBlock = some b → b ≠ r ∧ ¬ rk b := fun b e => by
  rcases hnb b e with e | e
  ·exact h.k2 b e
  ·exact ⟨by omega, fun e' => by have := hrk b e'; omega⟩
 have ha : ∀ k, k < w.heap.size → muR rk r nv' k → muR rk r nv k := by
  rintro k hk (e | e | e)
  ·exact .inl e
  ·rcases hnb k e with e | e
   ·exact .inr (.inl e)
   ·omega
  ·exact .inr (.inr e)
 have hb : ∀ k, k < w.heap.size → (nv.ownBlock = some k ∨ k = r) → muR rk r nv k := by
  rintro k _ (e | e)
  ·exact .inr (.inl e)
  ·exact .inl e
 have hc1 : w1.rangeAt r 0 (rsL q x tv kv nv false) := ho.range h.cells nr
 have ht1 : w1.there r 0 7 := ho.there h.there nr
 refine ⟨{ cells := ?_, there := there_set ht1 (hc1 5 _ rfl) nv', rB := h.rB, k1 := h.k1, k2 := nr'
           tabs := h.tabs.keep oo (fun b e e' => (h.tabsB b e).2 (hb b (h.tabsB b e).1 e'))
           tabsB := fun b e => ⟨Nat.lt_of_lt_of_le (h.tabsB b e).1 oo.size, fun e' => (h.tabsB b e).2 (ha b (h.tabsB b e).1 e')⟩
           keptB := fun b e e' => h.keptB b e (ha b (h.kept.lt b e).2 e')
           kept := h.kept.frame oo (fun b e e' => h.keptB b e (hb b (h.kept.lt b e).2 e')) hb ha
           now := ?_
           comE := h.comE, nowE := he, comR := h.comR, nowR := hr, wf := ⟨h.wf.size, h.wf.epoch, h.wf.sector, h.wf.tabs, h.wf.com, hw⟩ }, oo⟩
 ·have := range_set hc1 (j := 5) (by simp [rsL]) nv'
  exact this
 ·refine (hp.frame ((Only.refl (fun b => b = r) w1).setCell ⟨r, 5, none⟩ nv' (fun _ => rfl)) (fun b e e' => (nr' b e).1 e') (fun k _ e => .inl (.inl e)) (fun k _ e => ?_))
  rcases e with e | e | e
  ·exact .inl (.inl e)
  ·exact .inr e
  ·exact .inl (.inr e)
def RsIs (w : World) (rk : Nat → Prop) (B r q : Nat) (nv : Value) (x' : SS) (w' : World) : Prop :=
 ∃ tv kv nv' lk ln, RsAt w' rk B r q tv kv nv' x' lk ln ∧ Only (fun b => nv.ownBlock = some b ∨ b = r) w w' ∧ (∀ b, nv'.ownBlock = some b → nv.ownBlock = some b ∨ w.heap.size ≤ b)
theorem pgs_len {l : Pgs} (h : Rise l) (hw : ∀ p ∈ l, 0 ≤ p.1 ∧ p.1 < 728) : l.length ≤ 728 := by
 have hnd : (l.map fun p => p.1.toNat).Nodup := by
  rw [List.Nodup, List.pairwise_map]
  refine List.Pairwise.imp_of_mem ?_ h
  intro a b ha hb hab e
  have := (hw a ha).1
  have := (hw b hb).1
  omega
 have hsub : (l.map fun p => p.1.toNat) ⊆ List.range 728 := fun z hz => by
  obtain ⟨p, hp, rfl⟩ := List.mem_map.1 hz
  have := hw p hp
  exact List.mem_range.2 (by omega)
 have := List.Nodup.length_le_of_subset hnd hsub
 simpa using this
theorem RsAt.nowS (h : RsAt w rk B r q tv kv nv x lk ln) : ln.length ≤ 728 := by rw [h.nowLen]; exact pgs_len h.nowR (fun p hp => (h.wf.now p hp).1)
theorem RsAt.comS (h : RsAt w rk B r q tv kv nv x lk ln) : lk.length ≤ 728 := by rw [h.comLen]; exact pgs_len h.comR (fun p hp => (h.wf.com p hp).1)
theorem rroll_any (h : RsAt w rk B r q tv kv nv x lk ln) (hrk : ∀ k, rk k → k < w.heap.size) (hB : B ≤ w.heap.size) :
  Calls Tryz.prog 24 #[.pointer (some ⟨r, 0, none⟩)] w fun e w' => e = .returned (.int .i64 0) ∧ Hid (RsIs w rk B r q nv { x with now := x.com } w') := by
 have HB := rbad_any r 0 w h.c6
 rw [show badE 0 = 0 from rfl] at HB
 have HC : Hid (Calls Tryz.prog 62 _ _ _) := copied_any kv lk B _ w h.kept (by have := h.comS; omega)
 have HH : Hid (RsAt w rk B r q tv kv nv x lk ln) := h
 have c4 := h.c4
 have c5 := h.c5
 have f5 := h.fz 5 (by omega)
 obtain ⟨a, c, hkv, _⟩ := h.kept.form
 have hlt := h.lt
 have HRK : Hid (∀ k, rk k → k < w.heap.size) := hrk
 obtain ⟨n, hn⟩ : ∃ n, n = lk.length := ⟨_, rfl⟩
 rw [← hn] at hkv HC
 have HKV : Hid (kv = .slice a n c) := hkv
 rw [hkv] at c4 HC
 clear h hrk hkv hn
 go_enter Tryz.func24, Tryz.ntmps24
 go_wp2_with fail
 refine HB.mono ?_
 rintro e w1 ⟨rfl, rfl⟩
 clear HB
 go_wp2_with fail
 refine (show Calls Tryz.prog 62 _ _ _ from HC.out).mono ?_
 rintro e w2 ⟨a2, c2, ys, rfl, HY⟩
 have y5 := HY.out.2.2.cell c5 (fun e => e)
 have yf : w2.frozen? ⟨r, 5, none⟩ = false := (HY.out.2.2.frozen hlt (fun e => e)).trans f5
 have HF : Hid (RsIs w1 rk B r q nv { x with now := x.com } (w2.setCell ⟨r, 5, none⟩ (.slice a2 n c2))) := by
  obtain ⟨h1, h2, h3⟩ := HY.out
  have hx := HH.out
  obtain ⟨r1, r2⟩ := hx.setNow HRK.out (h3.mono (fun _ _ e => e.elim)) (.slice a2 n c2) ys x.com
   ((h1.less hB).av (fun k hk e => by
     rcases e with (e | e) | e
     ·exact .inl (by rw [e]; exact hlt)
     ·exact .inl (HRK.out k e)
     ·exact .inr e))
   (fun b e => .inr (h1.lt b e).1) (by rw [h2, hx.comE]) hx.comR (fun p hp => ⟨(hx.wf.com p hp).1, .inr (hx.wf.com p hp).2.1, (hx.wf.com p hp).2.2⟩)
  exact ⟨_, _, _, _, _, r1, r2, fun b e => .inr (h1.lt b e).1⟩
 clear HC HH
 go_wp2
 go_ret
 exact ⟨rfl, HF⟩
theorem rroll_dead (r : Nat) (w : World) (h : w.cell? ⟨r, 6, none⟩ = some (.bool true)) :
  Calls Tryz.prog 24 #[.pointer (some ⟨r, 0, none⟩)] w fun e w' => e = .returned (.int .i64 3) ∧ w' = w := by
 have HB := rbad_dead r 0 w h
 go_enter Tryz.func24, Tryz.ntmps24
 go_wp2_with fail
 refine HB.mono ?_
 rintro e w1 ⟨rfl, rfl⟩
 go_wp2
 go_ret
 exact ⟨rfl, rfl⟩
end
attribute [local go_sem] Oper.semAt_some
def KpP (Pb : Nat) (W W' : World) : Prop := W'.heap[Pb]? = W.heap[Pb]?
def intEnc (x : Int) : Array Value := #[.int .i64 x]
theorem take_succ_getD (zs : List Int) (k : Nat) (h : k < zs.length) : zs.take (k + 1) = zs.take k ++ [zs.getD k 0] := by
 rw [List.take_succ_eq_append_getElem h]
 simp [List.getD, h]
def IntsIn (w : World) (Pb : Nat) (sv : Value) (zs : List Int) : Prop :=
 (sv = .slice none 0 0 ∧ zs = []) ∨ ∃ off cap, sv = .slice (some ⟨Pb, off, none⟩) zs.length cap ∧ ∀ j, j < zs.length → w.cell? ⟨Pb, off + j, none⟩ = some (.int .i64 (zs.getD j 0))
theorem values_core (m : Nat) (l Bs Pb off cap : Nat) (zs : List Int) (hlen : zs.length ≤ maxLen) (J Jx : List Int → World → Prop)
  (hY : ∀ k W, k < zs.length → J (zs.take k) W → YieldAt Fence.wide (m - 1) Tryz.prog l (intEnc (zs.getD k 0)) W fun e W' =>
   (e = .returned (.bool true) ∧ J (zs.take k ++ [zs.getD k 0]) W' ∧ KpP Pb W W') ∨ (e = .returned (.bool false) ∧ Jx (zs.take k ++ [zs.getD k 0]) W'))
  (W : World) (hBs : W.cell? ⟨Bs, 0, none⟩ = some (.slice (some ⟨Pb, off, none⟩) zs.length cap)) (hc : ∀ j, j < zs.length → W.cell? ⟨Pb, off + j, none⟩ = some (.int .i64 (zs.getD j 0))) (h0 : J [] W) :
  CallsIn Fence.wide m Tryz.prog 118 #[.func (.yield l) #[] #[], .pointer (some ⟨Bs, 0, none⟩)] W fun e W' => (∃ v, e = .returned v) ∧ (J zs W' ∨ ∃ k, k ≤ zs.length ∧ Jx (zs.take k) W') := by
 unfold maxLen at hlen
 refine callsIn_of_wp Tryz.func118 rfl trivial ?_ rfl
 simp only [Tryz.ntmps118, List.size_toArray, List.length_cons, List.length_nil, Nat.reduceAdd, Nat.reduceSub, Array.replicate_succ, Array.replicate_zero, List.push_toArray, List.append_toArray, List.nil_append, List.cons_append]
 gi_wp2
 gi_loopw [7] (fun i wr => ∃ k : Nat, k ≤ zs.length ∧ i = .int .i64 k ∧ J (zs.take k) wr ∧ KpP Pb W wr) (fun i _ => zs.length - (intOf i).toNat)
 case atStart => exact ⟨0, Nat.zero_le _, rfl, h0, rfl⟩
 case round =>
  obtain ⟨k, hk, rfl, hJ, hkp⟩ := hrel
  by_cases hlt : k < zs.length
  ·obtain ⟨fn, tmps, assign, body, hyr, hR⟩ := hY k wr hlt hJ
   have hcx : wr.cell? ⟨Pb, off + k, none⟩ = some (.int .i64 (zs.getD k 0)) := (World.cell?_of_block (w := W) (show wr.heap[Pb]? = W.heap[Pb]? from hkp)).trans (hc k hlt)
   have hj0 : (0 : Int) ≤ (k : Int) := Int.natCast_nonneg _
   have hj1 : (k : Int) < (zs.length : Int) := by omega
   have HT := take_succ_getD zs k hlt
   obtain ⟨z, hz⟩ : ∃ z, z = zs.getD k 0 := ⟨_, rfl⟩
   rw [← hz] at hyr hR hcx HT
   have HT' : Hid _ := HT
   have HKP : Hid (KpP Pb W wr) := hkp
   unfold intEnc at hyr
   clear hY hc h0 hBs hkp hz HT hJ
   gi_wp2
   refine ⟨fun h => (by simp [Fence.wide] at h), hR.mono ?_⟩
   rintro e W3 (⟨rfl, hJ3, hk3⟩ | ⟨rfl, hJx3⟩)
   ·have HK4 : Hid (KpP Pb W W3) := Eq.trans hk3 HKP.out
    clear hk3
    gi_wp2
    go_roundw
    case rel => exact ⟨k + 1, by omega, by simp, by rw [HT'.out]; exact hJ3, HK4.out⟩
    case measure => simp [intOf]; omega
   ·gi_wp2
    refine bodyPost_ret (results_none rfl _ _ _) rfl ?_
    exact ⟨⟨_, rfl⟩, .inr ⟨k + 1, by omega, by rw [HT'.out]; exact hJx3⟩⟩
  ·obtain rfl : k = zs.length := by omega
   rw [List.take_length] at hJ
   clear hY hc h0 hBs hkp
   gi_wp2
   go_end0
   exact ⟨⟨_, rfl⟩, .inl hJ⟩
theorem values_none (m l Bs : Nat) (J : World → Prop) (W : World) (hBs : W.cell? ⟨Bs, 0, none⟩ = some (.slice none 0 0)) (h0 : J W) :
  CallsIn Fence.wide m Tryz.prog 118 #[.func (.yield l) #[] #[], .pointer (some ⟨Bs, 0, none⟩)] W fun e W' => (∃ v, e = .returned v) ∧ J W' := by
 refine callsIn_of_wp Tryz.func118 rfl trivial ?_ rfl
 simp only [Tryz.ntmps118, List.size_toArray, List.length_cons, List.length_nil, Nat.reduceAdd, Nat.reduceSub, Array.replicate_succ, Array.replicate_zero, List.push_toArray, List.append_toArray, List.nil_append, List.cons_append]
 gi_wp2
 gi_loopw [7] (fun i wr => i = .int .i64 0 ∧ J wr) (fun _ _ => 0)
 case atStart => exact ⟨rfl, h0⟩
 case round =>
  obtain ⟨rfl, hJ⟩ := hrel
  gi_wp2
  go_end0
  exact ⟨⟨_, rfl⟩, hJ⟩
theorem values_in (m : Nat) (a : Option Addr) (n c : Nat) (w : World) :
  CallsIn Fence.wide m Tryz.prog 102 #[.slice a n c] w fun e w' => e = .returned (.func (.func 118) #[] #[.pointer (some ⟨w.heap.size, 0, none⟩)]) ∧ w' = w.alloc (.cells #[.slice a n c] 76) := by
 refine callsIn_of_wp Tryz.func102 rfl trivial ?_ rfl
 simp only [Tryz.ntmps102, List.size_toArray, List.length_cons, List.length_nil, Nat.reduceAdd, Nat.reduceSub, Array.replicate_succ, Array.replicate_zero, List.push_toArray, List.append_toArray, List.nil_append, List.cons_append]
 gi_wp2
 go_ret
 exact ⟨rfl, rfl⟩
theorem values_stops (m Bs Pb : Nat) (sv : Value) (zs : List Int) (w : World) (hl : zs.length ≤ maxLen) (hBs : w.cell? ⟨Bs, 0, none⟩ = some sv) (hi : IntsIn w Pb sv zs) (hP : Pb < w.heap.size) :
  SeqStopsK Fence.wide m Tryz.prog 118 #[.pointer (some ⟨Bs, 0, none⟩)] intEnc (KpP Pb) (fun ys => ys = zs) (fun _ => True) zs.length w := fun lo J Jx W hW _ _ hY h0 => by
 have hBl := World.block_lt_of_cell? w _ hBs
 have hBs' : W.cell? ⟨Bs, 0, none⟩ = some sv := (hW.cell (p := ⟨Bs, 0, none⟩) hBl).trans hBs
 rcases hi with ⟨rfl, rfl⟩ | ⟨off, cap, rfl, hc⟩
 ·exact (values_none m lo Bs (J []) W hBs' h0).mono fun e W' ⟨he, hj⟩ => ⟨he, .inl ⟨_, rfl, hj⟩⟩
 ·refine (values_core m lo Bs Pb off cap zs hl J Jx (fun k W1 hk hJ => ?_) W hBs' (fun j hj => (hW.cell (p := ⟨Pb, off + j, none⟩) hP).trans (hc j hj)) h0).mono ?_
  ·exact hY (zs.take k) (zs.getD k 0) W1 hJ (by rw [List.length_take]; omega)
  ·rintro e W' ⟨he, hj | ⟨k, _, hj⟩⟩
   ·exact ⟨he, .inl ⟨_, rfl, hj⟩⟩
   ·exact ⟨he, .inr ⟨_, trivial, hj⟩⟩
attribute [local go_sem] Oper.semAt_some
def KpC (Bt Bn : Nat) (W W' : World) : Prop := W'.heap[Bt]? = W.heap[Bt]? ∧ W'.heap[Bn]? = W.heap[Bn]?
def chV (g o n k : Nat) : Value := .slice (some ⟨g, o + 112 * k, none⟩) (min 112 (n - 112 * k)) (min 112 (n - 112 * k))
def chEnc (g o n k : Nat) : Array Value := #[chV g o n k]
theorem tabN_lt (n k : Nat) : k < tabN n ↔ 112 * k < n := by unfold tabN; omega
theorem run_min (x : Nat) (ty : TypeId) (w : World) : (Builtin.min_ #[3, 3] ty #[.int .i64 112, .int .i64 (x : Nat)]).run Tryz.prog w = .ok (.int .i64 ((min 112 x : Nat) : Int)) w := by
 have e : (if (x : Int) < 112 then (x : Int) else 112) = ((min 112 x : Nat) : Int) := by split <;> omega
 simp only [Builtin.min_, List.foldlM, Builtin.min2]
 rw [e]
 rfl
theorem chunk_core (m : Nat) (l Bt Bn g o n c : Nat) (hn : n ≤ 100000) (hc : n ≤ c) (J Jx : List Nat → World → Prop)
  (hY : ∀ k W, k < tabN n → J (List.range k) W → YieldAt Fence.wide (m - 1) Tryz.prog l (chEnc g o n k) W fun e W' =>
   (e = .returned (.bool true) ∧ J (List.range k ++ [k]) W' ∧ KpC Bt Bn W W') ∨ (e = .returned (.bool false) ∧ Jx (List.range k ++ [k]) W'))
  (hJd : ∀ ys W, J ys W → J ys W.drew)
  (W : World) (hBt : W.cell? ⟨Bt, 0, none⟩ = some (.slice (some ⟨g, o, none⟩) n c)) (hBn : W.cell? ⟨Bn, 0, none⟩ = some (.int .i64 112)) (h0 : J [] W) :
  CallsIn Fence.wide m Tryz.prog 127 #[.func (.yield l) #[] #[], .pointer (some ⟨Bt, 0, none⟩), .pointer (some ⟨Bn, 0, none⟩)] W fun e W' => (∃ v, e = .returned v) ∧ (J (List.range (tabN n)) W' ∨ ∃ k, k < tabN n ∧ Jx (List.range k ++ [k]) W') := by
 refine callsIn_of_wp Tryz.func127 rfl trivial ?_ rfl
 simp only [Tryz.ntmps127, List.size_toArray, List.length_cons, List.length_nil, Nat.reduceAdd, Nat.reduceSub, Array.replicate_succ, Array.replicate_zero, List.push_toArray, List.append_toArray, List.nil_append, List.cons_append]
 gi_wp2
 gi_loopw [4] (fun i wr => ∃ k : Nat, k ≤ tabN n ∧ i = .int .i64 ((112 * k : Nat) : Int) ∧ J (List.range k) wr ∧ KpC Bt Bn W wr) (fun i _ => 112 * tabN n - (intOf i).toNat)
 case atStart => exact ⟨0, Nat.zero_le _, rfl, h0, rfl, rfl⟩
 case round =>
  obtain ⟨k, hk, rfl, hJ, hkp⟩ := hrel
  have hb1 : wr.cell? ⟨Bt, 0, none⟩ = some (.slice (some ⟨g, o, none⟩) n c) := (World.cell?_of_block (w := W) hkp.1).trans hBt
  have hb2 : wr.cell? ⟨Bn, 0, none⟩ = some (.int .i64 112) := (World.cell?_of_block (w := W) hkp.2).trans hBn
  obtain ⟨i, hi⟩ : ∃ i, i = 112 * k := ⟨_, rfl⟩
  by_cases hlt : k < tabN n
  ·obtain ⟨fn, tmps, assign, body, hyr, hR⟩ := hY k wr.drew hlt (hJd _ _ hJ)
   have hin := (tabN_lt n k).1 hlt
   rw [← hi] at hin ⊢
   have i1 : (i : Int) < (n : Int) := by omega
   have i0 : (0 : Int) ≤ (i : Int) := by omega
   have i2 : (i : Int) ≤ (n : Int) := by omega
   obtain ⟨q, hq⟩ : ∃ q, q = min 112 (n - i) := ⟨_, rfl⟩
   have HKP : Hid (KpC Bt Bn W wr) := hkp
   have HI : Hid (i = 112 * k) := hi
   have e1 : ((n : Int) - (i : Int)).toNat = n - i := by omega
   have hmin : ∀ ty, ∀ w, (Builtin.min_ #[3, 3] ty #[.int .i64 112, .int .i64 ((n - i : Nat) : Int)]).run Tryz.prog w = .ok (.int .i64 (q : Nat)) w := fun ty w => by rw [hq]; exact run_min (n - i) ty w
   have q0 : 0 < q := by omega
   have e2 : IntKind.i64.wrap ((i : Int) + (q : Int)) = ((i + q : Nat) : Int) := by rw [IntKind.wrap_i64]; omega
   have e3 : (i : Int) ≤ ((i + q : Nat) : Int) := by omega
   have e4 : ((i + q : Nat) : Int) ≤ (c : Int) := by omega
   have e5 : (((i + q : Nat) : Int) - (i : Int)).toNat = q := by omega
   have e6 : IntKind.i64.wrap ((i : Int) + 112) = ((112 * (k + 1) : Nat) : Int) := by rw [IntKind.wrap_i64]; omega
   unfold chEnc chV at hyr
   rw [← hi, ← hq] at hyr
   have HJ : Hid (J (List.range k) wr) := hJ
   have HK1 : Hid (k < tabN n) := hlt
   have HJD : Hid _ := hJd
   clear hY h0 hBt hBn hkp hi hq hlt hJ hJd hk
   gi_wp2
   gi_region
   clear hmin
   gi_wp2
   refine ⟨fun h => (by simp [Fence.wide] at h), hR.mono ?_⟩
   rintro e W3 (⟨rfl, hJ3, hk3⟩ | ⟨rfl, hJx3⟩)
   ·have HK4 : Hid (KpC Bt Bn W W3) := ⟨hk3.1.trans HKP.out.1, hk3.2.trans HKP.out.2⟩
    have hb4 : W3.cell? ⟨Bn, 0, none⟩ = some (.int .i64 112) := (World.cell?_of_block (w := wr) hk3.2).trans hb2
    have HJ3 : Hid _ := hJ3
    clear hk3 hb1 hb2 hJ3
    gi_wp2
    go_roundw
    case rel => exact ⟨k + 1, HK1.out, by rfl, by rw [List.range_succ]; exact HJ3.out, HK4.out⟩
    case measure => simp [intOf]; have := HI.out; have := HK1.out; omega
   ·gi_wp2
    refine bodyPost_ret (results_none rfl _ _ _) rfl ?_
    exact ⟨⟨_, rfl⟩, .inr ⟨k, HK1.out, hJx3⟩⟩
  ·obtain rfl : k = tabN n := by omega
   have hin : ¬ 112 * tabN n < n := by unfold tabN; omega
   rw [← hi] at hin ⊢
   have i1 : ¬ (i : Int) < (n : Int) := by omega
   clear hY h0 hBt hBn hkp hi hJd
   gi_wp2
   go_end0
   exact ⟨⟨_, rfl⟩, .inl hJ⟩
theorem chunk_none (m l Bt Bn c : Nat) (a : Option Addr) (J : World → Prop) (W : World) (hBt : W.cell? ⟨Bt, 0, none⟩ = some (.slice a 0 c)) (h0 : J W) :
  CallsIn Fence.wide m Tryz.prog 127 #[.func (.yield l) #[] #[], .pointer (some ⟨Bt, 0, none⟩), .pointer (some ⟨Bn, 0, none⟩)] W fun e W' => (∃ v, e = .returned v) ∧ J W' := by
 refine callsIn_of_wp Tryz.func127 rfl trivial ?_ rfl
 simp only [Tryz.ntmps127, List.size_toArray, List.length_cons, List.length_nil, Nat.reduceAdd, Nat.reduceSub, Array.replicate_succ, Array.replicate_zero, List.push_toArray, List.append_toArray, List.nil_append, List.cons_append]
 gi_wp2
 gi_loopw [4] (fun i wr => i = .int .i64 0 ∧ J wr ∧ wr = W) (fun _ _ => 0)
 case atStart => exact ⟨rfl, h0, rfl⟩
 case round =>
  obtain ⟨rfl, hJ, rfl⟩ := hrel
  gi_wp2
  go_end0
  exact ⟨⟨_, rfl⟩, hJ⟩
theorem chunk_in (m : Nat) (a : Option Addr) (n c : Nat) (w : World) :
  CallsIn Fence.wide m Tryz.prog 110 #[.slice a n c, .int .i64 112] w fun e w' => e = .returned (.func (.func 127) #[] #[.pointer (some ⟨w.heap.size, 0, none⟩), .pointer (some ⟨w.heap.size + 1, 0, none⟩)]) ∧ w' = (w.alloc (.cells #[.slice a n c] 37)).alloc (.cells #[.int .i64 112] 3) := by
 refine callsIn_of_wp Tryz.func110 rfl trivial ?_ rfl
 simp only [Tryz.ntmps110, List.size_toArray, List.length_cons, List.length_nil, Nat.reduceAdd, Nat.reduceSub, Array.replicate_succ, Array.replicate_zero, List.push_toArray, List.append_toArray, List.nil_append, List.cons_append]
 gi_wp2
 go_ret
 exact ⟨rfl, rfl⟩
theorem chunk_stops (m Bt Bn g o n c : Nat) (a : Option Addr) (w : World) (hn : n ≤ 100000) (ha : a = some ⟨g, o, none⟩ ∧ n ≤ c ∨ n = 0) (hBt : w.cell? ⟨Bt, 0, none⟩ = some (.slice a n c)) (hBn : w.cell? ⟨Bn, 0, none⟩ = some (.int .i64 112)) :
  SeqStopsK Fence.wide m Tryz.prog 127 #[.pointer (some ⟨Bt, 0, none⟩), .pointer (some ⟨Bn, 0, none⟩)] (chEnc g o n) (KpC Bt Bn) (fun ys => ys = List.range (tabN n)) (fun pre => ∃ k, k < tabN n ∧ pre = List.range (k + 1)) (tabN n) w := fun lo J Jx W hW hJ hJx hY h0 => by
 have hBl := World.block_lt_of_cell? w _ hBt
 have hNl := World.block_lt_of_cell? w _ hBn
 have hBt' : W.cell? ⟨Bt, 0, none⟩ = some (.slice a n c) := (hW.cell (p := ⟨Bt, 0, none⟩) hBl).trans hBt
 have hBn' : W.cell? ⟨Bn, 0, none⟩ = some (.int .i64 112) := (hW.cell (p := ⟨Bn, 0, none⟩) hNl).trans hBn
 rcases ha with ⟨rfl, hc⟩ | rfl
 ·refine (chunk_core m lo Bt Bn g o n c hn hc J Jx (fun k W1 hk hj => ?_) (fun ys W1 hj => ?_) W hBt' hBn' h0).mono ?_
  ·exact hY (List.range k) k W1 hj (by simpa using hk)
  ·exact hJ ys W1 W1.drew none hj ⟨rfl, rfl, rfl, Nat.le_refl _, fun _ _ _ => rfl⟩ (fun r e => by cases e)
  ·rintro e W' ⟨he, hj | ⟨k, hk, hj⟩⟩
   ·exact ⟨he, .inl ⟨_, rfl, hj⟩⟩
   ·exact ⟨he, .inr ⟨_, ⟨k, hk, by rw [List.range_succ]⟩, hj⟩⟩
 ·exact (chunk_none m lo Bt Bn c a (J []) W hBt' h0).mono fun e W' ⟨he, hj⟩ => ⟨he, .inl ⟨_, rfl, by simpa [tabN] using hj⟩⟩
end Go.Proofs.YtlcglapcmdpkfaaGreat
