/- A new heap in memory; its small calls. -/
import Derived.Test.YtijifabejngdbaaHn1
import Derived.Deep.QuietTactic
import Derived.BigQuiet
namespace Go.Proofs.Ytijifabejngdbaa
open Go.RowKit
set_option linter.unusedSimpArgs false
set_option linter.unusedVariables false
/-- block h is a heap of 9 words: its spaces, the map m without entries, its roots -/
structure HpE (w : World) (h m : Nat) (ov yv rv : Value) : Prop where
  hb : w.heap[h]? = some (.cells #[ov, yv, .map (some m), .int .i64 9, rv] 71)
  mb : ∃ c, w.heap[m]? = some (.map #[] c)
  ne : h ≠ m
theorem hb_cell {w : World} {b : Nat} {c : Array Value} {T : TypeId} (h : w.heap[b]? = some (.cells c T)) (j : Nat) : w.cell? ⟨b, j, none⟩ = c[j]? := by
  simp [World.cell?, h]
theorem hb_froz {w : World} {b : Nat} {c : Array Value} {T : TypeId} (h : w.heap[b]? = some (.cells c T)) (j : Nat) : w.frozen? ⟨b, j, none⟩ = false := by
  simp [World.frozen?, h]
theorem HpE.cells {w : World} {h m : Nat} {ov yv rv : Value} (g : HpE w h m ov yv rv) : w.cell? ⟨h, 0, none⟩ = some ov ∧ w.cell? ⟨h, 1, none⟩ = some yv ∧ w.cell? ⟨h, 2, none⟩ = some (.map (some m)) ∧ w.cell? ⟨h, 3, none⟩ = some (.int .i64 9) ∧ w.cell? ⟨h, 4, none⟩ = some rv :=
  ⟨hb_cell g.hb 0, hb_cell g.hb 1, hb_cell g.hb 2, hb_cell g.hb 3, hb_cell g.hb 4⟩
theorem HpE.only {w w' : World} {h m : Nat} {ov yv rv : Value} (g : HpE w h m ov yv rv) (o : Only (fun _ => False) w w') : HpE w' h m ov yv rv := by
  refine ⟨(o.block h (Array.getElem?_eq_some_iff.1 g.hb).1 (fun g => g)).trans g.hb, ?_, g.ne⟩
  obtain ⟨c, hc⟩ := g.mb
  exact ⟨c, (o.block m (Array.getElem?_eq_some_iff.1 hc).1 (fun g => g)).trans hc⟩
theorem results_sp {fn : Func} {u : Tmp} (h : fn.results = #[.cell u 68]) (tmps : Array Value) (w : World) (B : Nat) {x y z : Value} (h0 : w.cell? ⟨B, 0, none⟩ = some x) (h1 : w.cell? ⟨B, 1, none⟩ = some y) (h2 : w.cell? ⟨B, 2, none⟩ = some z) (ha : tmps.getD u undef = .pointer (some ⟨B, 0, none⟩)) :
    (results fn tmps).run Try.prog w = .ok (.agg #[x, y, z]) w := by
  have ha' : tmps[u]?.getD undef = .pointer (some ⟨B, 0, none⟩) := by simpa using ha
  simp [results, h, ha', asAddr, go_sem, loadVar, isAgg, Try.underlying68, h0, h1, h2]
theorem alloc_at (W : World) (o : Obj) (n : Nat) (h : n = W.heap.size) : (W.alloc o).heap[n]? = some o := by
  subst h
  exact Array.getElem?_push_size ..
theorem Only.at {w w1 : World} {B : Nat} {o : Obj} (h : Only (fun _ => False) w w1) (g : w.heap[B]? = some o) : w1.heap[B]? = some o :=
  (h.block B (Array.getElem?_eq_some_iff.1 g).1 (fun g => g)).trans g
theorem mkm (W : World) : (Instr.makeMap 66 none).run Try.prog W = .ok (.map (some W.heap.size)) (W.alloc (.map #[] 0)) := by kernel_rfl
theorem mkm2 (W : World) : (Instr.makeMap 88 none).run Try.prog W = .ok (.map (some W.heap.size)) (W.alloc (.map #[] 0)) := by kernel_rfl
theorem newspaces (w : World) : Calls Try.prog 33 #[] w fun e w' => ∃ m c, e = .returned (.agg #[.slice none 0 0, .slice none 0 0, .map (some m)]) ∧ w'.heap[m]? = some (.map #[] c) ∧ w.heap.size ≤ m ∧ Only (fun _ => False) w w' := by
  have hm := mkm
  go_enter Try.func33, Try.ntmps33
  go_wp2
  refine bodyPost_ret (results_sp rfl _ _ w.heap.size (x := .slice none 0 0) (y := .slice none 0 0) (z := .map (some (w.heap.size + 1))) ?_ ?_ ?_ rfl) rfl ?_
  · simp [go_sem]
  · simp [go_sem]
  · simp [go_sem]
  · exact ⟨_, 0, rfl, alloc_at _ _ _ (by simp), by omega, ((Only.refl _ w).alloc _).alloc _⟩
set_option maxHeartbeats 1000000 in
theorem new9 (w : World) : Calls Try.prog 9 #[.int .i64 9] w fun e w' => ∃ h m, e = .returned (.tuple #[.pointer (some ⟨h, 0, none⟩), .int .i64 0]) ∧ Hid (HpE w' h m (.slice none 0 0) (.slice none 0 0) (.slice none 0 0) ∧ w.heap.size ≤ h ∧ w.heap.size ≤ m ∧ Only (fun _ => False) w w') := by
  have H := newspaces
  go_enter Try.func9, Try.ntmps9
  go_wp2_with fail
  refine (show Calls Try.prog 33 _ _ _ from H _).mono ?_
  rintro e w1 ⟨m, c, rfl, hm, hs, o⟩
  have HM : Hid (w1.heap[m]? = some (.map #[] c) ∧ w.heap.size ≤ m ∧ Only (fun _ => False) w w1) := ⟨hm, hs, o⟩
  clear H hm hs o
  go_wp2
  go_ret2
  obtain ⟨h1, h2, h3⟩ := HM.out
  have oA := (Only.refl (fun _ => False) w1).alloc (.cells #[.slice none 0 0, .slice none 0 0, .map (some m), .int .i64 9, .slice none 0 0] 71)
  exact ⟨w1.heap.size, m, rfl, ⟨alloc_at _ _ _ rfl, ⟨c, oA.at h1⟩, by have := (Array.getElem?_eq_some_iff.1 h1).1; omega⟩, h3.size, h2, h3.trans oA (fun _ _ g => g)⟩
theorem Only.drewN {bs : Nat → Prop} {a w : World} (h : Only bs a w) : ∀ n : Nat, Only bs a (w.drewN n) := fun n => ⟨h.os, h.tape, h.output, h.size, h.block⟩
theorem used_any (h : Nat) (a b : Option Addr) (n m c d : Nat) (hn : n ≤ 1000000) (hm : m ≤ 1000000) (w : World) (h0 : w.cell? ⟨h, 0, none⟩ = some (.slice a n c)) (h1 : w.cell? ⟨h, 1, none⟩ = some (.slice b m d)) : Calls Try.prog 50 #[.pointer (some ⟨h, 0, none⟩)] w fun e w' => e = .returned (.int .i64 ((n : Int) + m)) ∧ Only (fun _ => False) w w' := by
  go_enter Try.func50, Try.ntmps50
  go_wp2
  go_quiet (fail)
  go_wp2
  go_ret
  exact ⟨rfl, (Only.refl _ w).drewN _⟩
theorem yfrom_any (h : Nat) (a : Option Addr) (n c : Nat) (hn : n ≤ 1000000) (w : World) (h0 : w.cell? ⟨h, 0, none⟩ = some (.slice a n c)) : Calls Try.prog 74 #[.pointer (some ⟨h, 0, none⟩)] w fun e w' => e = .returned (.int .u64 (n : Int)) ∧ w' = w := by
  have hb : IntKind.u64.wrap (n : Int) = (n : Int) := by
    rw [IntKind.wrap_u64]; omega
  go_enter Try.func74, Try.ntmps74
  go_wp2
  go_ret
  exact ⟨rfl, rfl⟩
theorem atmax_any (h : Nat) (a : Option Addr) (n c : Nat) (hn : n < 65536) (w : World) (h0 : w.cell? ⟨h, 4, none⟩ = some (.slice a n c)) : Calls Try.prog 58 #[.pointer (some ⟨h, 0, none⟩)] w fun e w' => e = .returned (.bool false) ∧ w' = w := by
  go_enter Try.func58, Try.ntmps58
  go_wp2
  go_ret
  exact ⟨by simp; omega, rfl⟩
theorem roots_any (h : Nat) (a : Option Addr) (n c : Nat) (w : World) (h0 : w.cell? ⟨h, 4, none⟩ = some (.slice a n c)) : Calls Try.prog 30 #[.pointer (some ⟨h, 0, none⟩)] w fun e w' => e = .returned (.int .i64 (n : Int)) ∧ w' = w := by
  go_enter Try.func30, Try.ntmps30
  go_wp2
  go_ret
  exact ⟨rfl, rfl⟩
end Go.Proofs.Ytijifabejngdbaa
