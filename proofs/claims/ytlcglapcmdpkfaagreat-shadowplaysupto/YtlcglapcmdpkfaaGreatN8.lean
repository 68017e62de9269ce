import Derived.Test.YtlcglapcmdpkfaaGreatN7
import Derived.Handy
namespace Go.Proofs.YtlcglapcmdpkfaaGreat
open Go.RowKit
set_option linter.unusedSimpArgs false
set_option linter.unusedVariables false
theorem load3 (a : Addr) (x : Value) (w : World) (h : w.cell? a = some x) : (loadVar 3 a).run Tryz.prog w = .ok x w := by
 simp [loadVar, isAgg, go_sem, Tryz.underlying3, h]
theorem results_mix {fn : Func} {t u v : Tmp} (h : fn.results = #[.tmp t, .cell u 3, .tmp v]) (tmps : Array Value) (w : World) (a : Addr) (x : Value) (ha : tmps.getD u undef = .pointer (some a)) (hx : w.cell? a = some x) :
  (results fn tmps).run Tryz.prog w = .ok (.tuple #[tmps.getD t undef, x, tmps.getD v undef]) w := by
 have hl := load3 a x w hx
 have ha' : tmps[u]?.getD undef = .pointer (some a) := by simpa using ha
 simp [results, h, ha', asAddr, hx, go_sem]
def rdV (r : Option (Nat × Nat)) : Value := match r with
 | some (m, q) => .tuple #[.int .u64 (m : Nat), .int .i64 (q : Nat), .int .i64 0]
 | none => .tuple #[.int .u64 0, .int .i64 0, .int .i64 9]
set_option maxRecDepth 100000 in
set_option maxHeartbeats 1000000 in
theorem sread_any (v : Value) (p : Nat) (zs : List Nat) (w : World) (h : BytesAt w v zs) (hp : p ≤ zs.length) :
  Calls Tryz.prog 116 #[v, .int .i64 p] w fun e w' => e = .returned (rdV (rd zs p 0 0)) ∧ Only (fun _ => False) w w' := by
 obtain ⟨a, c, rfl, hcap, hc⟩ := h.form
 obtain ⟨n, hn⟩ : ∃ m, m = zs.length := ⟨_, rfl⟩
 rw [← hn]
 rw [← hn] at h hp
 have p0 : (0 : Int) ≤ (p : Int) := by omega
 have p1 : ¬ (n : Int) < (p : Int) := by omega
 obtain ⟨W, hW⟩ : ∃ W, W = (w.alloc (.cells #[.slice a n c] 37)).alloc (.cells #[.int .i64 p] 3) := ⟨_, rfl⟩
 have oW : Only (fun _ => False) w W := by rw [hW]; exact ((Only.refl _ w).alloc _).alloc _
 have hN : W.heap[w.heap.size + 1]? = some (.cells #[.int .i64 p] 3) := by rw [hW]; exact heap_alloc2_new w _ _
 have hB : W.heap[w.heap.size]? = some (.cells #[.slice a n c] 37) := by rw [hW]; exact heap_alloc2_old w _ _
 have x1 : W.cell? ⟨w.heap.size + 1, 0, none⟩ = some (.int .i64 p) := by rw [cell_of_row _ _ _ _ _ _ hN]; rfl
 have x2 : W.cell? ⟨w.heap.size, 0, none⟩ = some (.slice a n c) := by rw [cell_of_row _ _ _ _ _ _ hB]; rfl
 have x3 : W.frozen? ⟨w.heap.size + 1, 0, none⟩ = false := frozen_of_row _ _ _ _ _ hN
 have hB0 : 0 < zs.length → ∀ b, (Value.slice a n c).ownBlock = some b → b ≠ w.heap.size + 1 := fun hz b hb e => by
  obtain ⟨g, o, c', hv, _, hg⟩ := h.1.at (by omega)
  rw [hv] at hb
  simp [Value.ownBlock] at hb
  omega
 have HNB := numb_any (w.heap.size + 1) w.heap.size p (.slice a n c) zs W (h.frame oW) (by omega) x1 x3 x2 (by omega) hB0
 have HOW : Hid (Only (fun _ => False) w W) := oW
 rw [hW] at HNB
 clear oW hN hB x1 x3 hB0 h hc hcap hn
 have x2' : ((w.alloc (.cells #[.slice a n c] 37)).alloc (.cells #[.int .i64 0] 3)).cell? ⟨w.heap.size, 0, none⟩ = some (.slice a n c) := by
  rw [cell_of_row _ _ _ _ _ _ (heap_alloc2_old w _ _)]; rfl
 clear x2
 have hmf : ∀ (fn : Fn) (first cap : Array Value) (w : World), (Instr.makeFunc fn first cap).run Tryz.prog w = .ok (.func fn first cap) w := fun _ _ _ _ => rfl
 have HW : Hid (W = (w.alloc (.cells #[.slice a n c] 37)).alloc (.cells #[.int .i64 p] 3)) := hW
 clear hW
 go_enter Tryz.func116, Tryz.ntmps116
 go_wp2_with fail
 refine HNB.mono ?_
 rintro e w2 ⟨hnum, hfz, ho⟩
 have HO2 : Hid (Only (fun _ => False) w w2) := by
  rw [← HW.out] at ho
  exact HOW.out.trans ho (fun i hi e => by omega)
 clear HNB HOW HW ho x2'
 rcases hnum with ⟨m, q, hr, rfl, hcell⟩ | ⟨x, y, hr, rfl, hcell⟩
 ·have HR : Hid (rd zs p 0 0 = some (m, q)) := hr
  have HCE : Hid (w2.cell? ⟨w.heap.size + 1, 0, none⟩ = some (.int .i64 (q : Nat))) := hcell
  clear hr
  have HO3 : Hid (Only (fun _ => False) w ((w2.setCell ⟨w.heap.size + 1, 0, none⟩ (.int .i64 (q : Nat))))) := HO2.out.setCell _ _ (fun h => by simp at h; omega)
  have HC3 : Hid ((w2.setCell ⟨w.heap.size + 1, 0, none⟩ (.int .i64 (q : Nat))).cell? ⟨w.heap.size + 1, 0, none⟩ = some (.int .i64 (q : Nat))) := World.cell?_setCell_same _ _ _ hcell
  go_wp2_with fail
  go_region
  all_goals
   go_wp2
   refine bodyPost_ret (results_mix rfl _ _ ⟨w.heap.size + 1, 0, none⟩ (.int .i64 (q : Nat)) rfl HC3.out) rfl ?_
   exact ⟨by rw [HR.out]; rfl, HO3.out.drew⟩
 ·have HR : Hid (rd zs p 0 0 = none) := hr
  have HO3 : Hid (Only (fun _ => False) w ((w2.setCell ⟨w.heap.size + 1, 0, none⟩ (.int .i64 0)))) := HO2.out.setCell _ _ (fun h => by simp at h; omega)
  have HC3 : Hid ((w2.setCell ⟨w.heap.size + 1, 0, none⟩ (.int .i64 0)).cell? ⟨w.heap.size + 1, 0, none⟩ = some (.int .i64 0)) := World.cell?_setCell_same _ _ _ hcell
  clear hr
  go_wp2
  refine bodyPost_ret (results_mix rfl _ _ ⟨w.heap.size + 1, 0, none⟩ (.int .i64 0) rfl HC3.out) rfl ?_
  exact ⟨by rw [HR.out]; rfl, HO3.out⟩
end Go.Proofs.YtlcglapcmdpkfaaGreat
