/- The keys of a map without entries, sorted: none. -/
import Derived.Test.YtijifabejngdbaaHn2
import Derived.RangeFuncNested
import Derived.RangeFuncBound
import Derived.RangeFuncCalls
import Derived.RangeFuncLeaves
import Derived.RangeFuncBox
import Derived.Shelf.Abstract
import Derived.Shelf.RegionOpen
import Derived.OwnWalkIn
import Derived.TacticsInMore
import Derived.LoopNIn
import Derived.LoopIn
import Derived.Laws.IdiomRangeMap
namespace Go.Proofs.Ytijifabejngdbaa
open Go.RowKit
set_option linter.unusedSimpArgs false
set_option linter.unusedVariables false
attribute [local go_sem] Oper.semAt_some
set_option maxRecDepth 100000 in
theorem len64_0 (w : World) : Calls Try.prog 89 #[.int .u64 0] w fun e w' => e = .returned (.int .i64 0) ∧ w' = w := by
  go_enter Try.func89, Try.ntmps89
  go_wp2
  go_ret
  exact ⟨by kernel_rfl, rfl⟩
theorem len_0 (w : World) : Calls Try.prog 73 #[.int .u64 0] w fun e w' => e = .returned (.int .i64 0) ∧ w' = w := by
  have H := len64_0
  go_enter Try.func73, Try.ntmps73
  go_wp2_with (go_at_call 89; refine (H _).mono ?_; rintro e w' ⟨rfl, rfl⟩)
  go_ret
  exact ⟨rfl, rfl⟩
theorem ins_0 (a : Option Addr) (c : Nat) (w : World) : Calls Try.prog 79 #[.slice a 0 c, .int .i64 0, .int .i64 0] w fun e w' => e = .returned (.tuple #[]) ∧ w' = w := by
  go_enter Try.func79, Try.ntmps79
  go_wp2
  go_loopw [6] (fun i wr => i = .int .i64 1 ∧ wr = w) (fun _ _ => 0)
  case atStart => exact ⟨rfl, rfl⟩
  case round =>
    obtain ⟨rfl, rfl⟩ := hrel
    go_wp2
    go_end0
    exact ⟨rfl, rfl⟩
set_option maxRecDepth 100000 in
set_option maxHeartbeats 1000000 in
theorem pdq_0 (a : Option Addr) (c : Nat) (w : World) : Calls Try.prog 72 #[.slice a 0 c, .int .i64 0, .int .i64 0, .int .i64 0] w fun e w' => e = .returned (.tuple #[]) ∧ w' = w := by
  have H := ins_0
  go_enter Try.func72, Try.ntmps72
  go_wp2
  go_loopw [1, 2, 3] (fun i j k wr => i = .int .i64 0 ∧ j = .int .i64 0 ∧ k = .int .i64 0 ∧ wr = w) (fun _ _ _ _ => 0)
  case atStart => exact ⟨rfl, rfl, rfl, rfl⟩
  case round =>
    obtain ⟨rfl, rfl, rfl, rfl⟩ := hrel
    go_wp2_with (go_at_call 79; refine (H _ _ _).mono ?_; rintro e w' ⟨rfl, rfl⟩)
    refine bodyPost_ret (results_none rfl _ _ _) rfl ?_
    exact ⟨rfl, rfl⟩
theorem sort_0 (a : Option Addr) (c : Nat) (w : World) : Calls Try.prog 47 #[.slice a 0 c] w fun e w' => e = .returned (.tuple #[]) ∧ w' = w := by
  have H := pdq_0
  have HL := len_0
  go_enter Try.func47, Try.ntmps47
  go_wp2_with (first | (go_at_call 73; refine (HL _).mono ?_; rintro e w' ⟨rfl, rfl⟩) | (go_at_call 72; refine (H _ _ _).mono ?_; rintro e w' ⟨rfl, rfl⟩))
  first
    | (go_end0; exact ⟨rfl, rfl⟩)
    | (refine bodyPost_ret (results_none rfl _ _ _) rfl ?_; exact ⟨rfl, rfl⟩)
set_option maxRecDepth 100000 in
set_option maxHeartbeats 2000000 in
theorem keys_none (m l Bs b c : Nat) (J : World → Prop) (W : World) (hBs : W.cell? ⟨Bs, 0, none⟩ = some (.map (some b))) (hb : W.heap[b]? = some (.map #[] c)) (h0 : ∀ o, J (W.alloc o)) :
    CallsIn Fence.wide m Try.prog 91 #[.func (.yield l) #[] #[], .pointer (some ⟨Bs, 0, none⟩)] W fun e W' => (∃ v, e = .returned v) ∧ J W' := by
  refine callsIn_of_wp Try.func91 rfl trivial ?_ rfl
  simp only [Try.ntmps91, List.size_toArray, List.length_cons, List.length_nil, Nat.reduceAdd, Nat.reduceSub, Array.replicate_succ, Array.replicate_zero, List.push_toArray, List.append_toArray, List.nil_append, List.cons_append]
  have hr := run_range_map (P := Try.prog) W 66 _ _ b #[] c Try.underlying66 hb
  have hn : ∀ ty, (Instr.next (.pointer (some ⟨W.heap.size, 0, none⟩)) false ty).run Try.prog (W.alloc (.mapIter (some b) c #[] c)) = .ok (.tuple #[.bool false]) (W.alloc (.mapIter (some b) c #[] c)) := fun ty => by
    rcases run_next_map (P := Try.prog) W ty b c c #[] #[] c hb (fun x hx => by simp at hx) (Nat.le_refl _) with h | ⟨e, he, _⟩
    · exact h.2
    · simp [leftOf] at he
  have hJ := h0 (.mapIter (some b) c #[] c)
  have HJ : Hid _ := hJ
  clear hJ h0
  gi_wp2
  gi_loopw [6] (fun _ wr => wr = W.alloc (.mapIter (some b) c #[] c)) (fun _ _ => 0)
  case atStart => rfl
  case round =>
    subst hrel
    gi_wp2
    go_end0
    exact ⟨⟨_, rfl⟩, HJ.out⟩
/-- the keys are none, to every loop body -/
def uEnc (x : Int) : Array Value := #[.int .u64 x]
theorem keys_stops (m Bs b c : Nat) (w : World) (hBs : w.cell? ⟨Bs, 0, none⟩ = some (.map (some b))) (hb : w.heap[b]? = some (.map #[] c)) :
    SeqStopsK Fence.wide m Try.prog 91 #[.pointer (some ⟨Bs, 0, none⟩)] uEnc (fun _ _ => True) (fun ys : List Int => ys = []) (fun _ => True) 0 w := fun lo J Jx W hW hJ _ hY h0 => by
  have hBl := World.block_lt_of_cell? w _ hBs
  have hBs' : W.cell? ⟨Bs, 0, none⟩ = some (.map (some b)) := (hW.cell (p := ⟨Bs, 0, none⟩) hBl).trans hBs
  have hb' : W.heap[b]? = some (.map #[] c) := (hW.block b (Array.getElem?_eq_some_iff.1 hb).1).trans hb
  refine (keys_none m lo Bs b c (J []) W hBs' hb' (fun o => hJ [] W (W.alloc o) none h0 ?_ (fun r e => by cases e))).mono fun e W' ⟨he, hj⟩ => ⟨he, .inl ⟨_, rfl, hj⟩⟩
  exact ⟨rfl, rfl, rfl, by simp, fun k hk _ => Below.heap_alloc _ _ _ hk⟩
theorem fnn (b : Nat) (w : World) : (binOp .eql 120 (.func (.func 91) #[] #[.pointer (some ⟨b, 0, none⟩)]) .nilFunc).run Try.prog w = .ok (.bool false) w := by kernel_rfl
set_option maxRecDepth 100000 in
set_option maxHeartbeats 2000000 in
theorem appseq_none (Bs b c : Nat) (w : World) (hBs : w.cell? ⟨Bs, 0, none⟩ = some (.map (some b))) (hb : w.heap[b]? = some (.map #[] c)) :
    CallsIn Fence.wide 6 Try.prog 98 #[.slice none 0 0, .func (.func 91) #[] #[.pointer (some ⟨Bs, 0, none⟩)]] w fun e w' => e = .returned (.slice none 0 0) ∧ Only (fun _ => False) w w' := by
  refine callsIn_of_wp_marks Try.func98 rfl trivial ?_ rfl
  simp only [Try.ntmps98, List.size_toArray, List.length_cons, List.length_nil, Nat.reduceAdd, Nat.reduceSub, Array.replicate_succ, Array.replicate_zero, List.push_toArray, List.append_toArray, List.nil_append, List.cons_append]
  have hnn := fnn Bs
  gi_wp2
  clear hnn
  obtain ⟨wl, hwl⟩ : ∃ x, x = w.alloc (.cells #[.slice none 0 0] 85) := ⟨_, rfl⟩
  have ol : Only (fun _ => False) w wl := by rw [hwl]; exact (Only.refl _ w).alloc _
  have sl : wl.heap.size = w.heap.size + 1 := by rw [hwl]; simp
  have bl : wl.heap[w.heap.size]? = some (.cells #[.slice none 0 0] 85) := by rw [hwl]; exact alloc_at _ _ _ rfl
  rw [← hwl]
  clear hwl
  refine wpIn_rangeFunc_ownG (w := wl) rfl (by omega) (gf := 91) (lb := #[.pointer (some ⟨Bs, 0, none⟩)]) rfl trivial (enters_of Try.func91 (by kernel_rfl) rfl)
    (keys_stops 5 Bs b c wl (ol.cell hBs (fun g => g)) (ol.at hb)) (fun _ _ => trivial) (fun _ _ _ _ _ _ _ _ => trivial) (Below.refl _ _) (fun _ => rfl)
    (fun pre W => Below wl.heap.size wl W)
    (fun _ _ _ => False)
    (ownFrom_below (Nat.le_refl _) (Nat.le_refl _))
    (fun _ _ _ _ _ hs _ _ => hs)
    (Below.refl _ _)
    (fun x => { tmps := #[.slice none 0 0, .func (.func 91) #[] #[.pointer (some ⟨Bs, 0, none⟩)], .pointer (some ⟨w.heap.size, 0, none⟩), undef, .slice none 0 0, .int .u64 x, .func (.func 91) #[] #[.pointer (some ⟨Bs, 0, none⟩)], .int .u64 x, undef, undef, undef, undef, undef], defers := [] }) ?assign ?body ?done ?stop
  case assign =>
    intro l0 x W K hK
    simp only [uEnc, List.zip_toArray, List.zip_cons_cons, List.zip_nil_right, List.foldl_toArray, List.foldl_cons, List.foldl_nil, List.setIfInBounds_toArray, List.set_cons_zero, List.set_cons_succ]
    gi_wp2
    exact hK
  case body =>
    rintro l0 pre x W _ hlt
    omega
  case done =>
    rintro D ys W hD rfl hB hK
    have hc : W.cell? ⟨w.heap.size, 0, none⟩ = some (.slice none 0 0) := hb_cell ((hB.block _ (by omega)).trans bl) 0
    gi_wp2
    refine ⟨by simp, .inl ⟨_, _, rfl, run_takeDeferred hK, ?_⟩⟩
    obtain ⟨WG, hWG⟩ : ∃ x, x = W.putObj D (.deferred none) := ⟨_, rfl⟩
    have oG : Only (fun k => k = D) W WG := by
      rw [hWG]
      exact (Only.refl _ W).grown (grownBy_putObj' W D _) (fun k e _ => by injection e with e; exact e.symm)
    rw [← hWG]
    refine ⟨_, results_tmp (t := 4) rfl _ _ _, rfl, ?_⟩
    have oB : Only (fun k => wl.heap.size ≤ k) wl W := ⟨hB.os, hB.tape, hB.output, hB.size, fun k hk _ => hB.block k hk⟩
    exact (ol.trans oB (fun i hi e => by omega)).trans oG (fun i hi e => by omega)
  case stop =>
    rintro D c pre W _ _ h _
    exact h.elim
theorem collect_none (Bs b c : Nat) (w : World) (hBs : w.cell? ⟨Bs, 0, none⟩ = some (.map (some b))) (hb : w.heap[b]? = some (.map #[] c)) : Calls Try.prog 90 #[.func (.func 91) #[] #[.pointer (some ⟨Bs, 0, none⟩)]] w fun e w' => e = .returned (.slice none 0 0) ∧ Only (fun _ => False) w w' := by
  have H : Hid (Calls Try.prog 98 #[.slice none 0 0, .func (.func 91) #[] #[.pointer (some ⟨Bs, 0, none⟩)]] w fun e w' => e = .returned (.slice none 0 0) ∧ Only (fun _ => False) w w') := (callsIn_wide (n := 6)).1 (appseq_none Bs b c w hBs hb)
  clear hBs hb
  go_enter Try.func90, Try.ntmps90
  go_wp2_with fail
  refine (show Calls Try.prog 98 _ _ _ from H.out).mono ?_
  rintro e w1 ⟨rfl, o1⟩
  have O1 : Hid _ := o1
  clear o1 H
  go_wp2
  go_ret
  exact ⟨rfl, O1.out⟩
theorem sorted_none (Bs b c : Nat) (w : World) (hBs : w.cell? ⟨Bs, 0, none⟩ = some (.map (some b))) (hb : w.heap[b]? = some (.map #[] c)) : Calls Try.prog 76 #[.func (.func 91) #[] #[.pointer (some ⟨Bs, 0, none⟩)]] w fun e w' => e = .returned (.slice none 0 0) ∧ Only (fun _ => False) w w' := by
  have H : Hid _ := collect_none Bs b c w hBs hb
  have HS := sort_0 none 0
  clear hBs hb
  go_enter Try.func76, Try.ntmps76
  go_wp2_with fail
  refine (show Calls Try.prog 90 _ _ _ from H.out).mono ?_
  rintro e w1 ⟨rfl, o1⟩
  have O1 : Hid (Only (fun _ => False) w w1) := o1
  clear o1 H
  go_wp2_with (go_at_call 47; refine (HS _).mono ?_; rintro e w' ⟨rfl, rfl⟩)
  go_ret
  exact ⟨rfl, O1.out⟩
theorem keys_call (b : Nat) (w : World) : Calls Try.prog 77 #[.map (some b)] w fun e w' => e = .returned (.func (.func 91) #[] #[.pointer (some ⟨w.heap.size, 0, none⟩)]) ∧ w' = w.alloc (.cells #[.map (some b)] 66) := by
  go_enter Try.func77, Try.ntmps77
  go_wp2
  go_ret
  exact ⟨rfl, rfl⟩
end Go.Proofs.Ytijifabejngdbaa
