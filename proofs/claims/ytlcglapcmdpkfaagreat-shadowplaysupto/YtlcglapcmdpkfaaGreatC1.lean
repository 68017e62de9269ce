import Derived.Test.YtlcglapcmdpkfaaGreatV1
import Derived.Test.YtlcglapcmdpkfaaGreatR1
import Derived.BigRegionIn
namespace Go.Proofs.YtlcglapcmdpkfaaGreat
open Go.RowKit
set_option linter.unusedSimpArgs false
set_option linter.unusedVariables false
attribute [local go_sem] Oper.semAt_some
def KpC (Bt Bn : Nat) (W W' : World) : Prop := W'.heap[Bt]? = W.heap[Bt]? ∧ W'.heap[Bn]? = W.heap[Bn]?
def chV (g o n k : Nat) : Value := .slice (some ⟨g, o + 112 * k, none⟩) (min 112 (n - 112 * k)) (min 112 (n - 112 * k))
def chEnc (g o n k : Nat) : Array Value := #[chV g o n k]
theorem tabN_lt (n k : Nat) : k < tabN n ↔ 112 * k < n := by unfold tabN; omega
theorem run_min (x : Nat) (ty : TypeId) (w : World) : (Builtin.min_ #[3, 3] ty #[.int .i64 112, .int .i64 (x : Nat)]).run Tryz.prog w = .ok (.int .i64 ((min 112 x : Nat) : Int)) w := by
 have e : (if (x : Int) < 112 then (x : Int) else 112) = ((min 112 x : Nat) : Int) := by split <;> omega
 simp only [Builtin.min_, List.foldlM, Builtin.min2]
 rw [e]
 rfl
set_option maxRecDepth 100000 in
set_option maxHeartbeats 2000000 in
theorem chunk_core (m : Nat) (l Bt Bn g o n c : Nat) (hn : n ≤ 100000) (hc : n ≤ c) (J Jx : List Nat → World → Prop)
  (hY : ∀ k W, k < tabN n → J (List.range k) W → YieldAt Fence.wide (m - 1) Tryz.prog l (chEnc g o n k) W fun e W' =>
   (e = .returned (.bool true) ∧ J (List.range k ++ [k]) W' ∧ KpC Bt Bn W W') ∨ (e = .returned (.bool false) ∧ Jx (List.range k ++ [k]) W'))
  (hJd : ∀ ys W, J ys W → J ys W.drew)
  (W : World) (hBt : W.cell? ⟨Bt, 0, none⟩ = some (.slice (some ⟨g, o, none⟩) n c)) (hBn : W.cell? ⟨Bn, 0, none⟩ = some (.int .i64 112)) (h0 : J [] W) :
  CallsIn Fence.wide m Tryz.prog 127 #[.func (.yield l) #[] #[], .pointer (some ⟨Bt, 0, none⟩), .pointer (some ⟨Bn, 0, none⟩)] W fun e W' => (∃ v, e = .returned v) ∧ (J (List.range (tabN n)) W' ∨ ∃ k, k < tabN n ∧ Jx (List.range k ++ [k]) W') := by
 refine callsIn_of_wp Tryz.func127 rfl trivial ?_ rfl
 simp only [Tryz.ntmps127, List.size_toArray, List.length_cons, List.length_nil, Nat.reduceAdd, Nat.reduceSub, Array.replicate_succ, Array.replicate_zero, List.push_toArray, List.append_toArray, List.nil_append, List.cons_append]
 gi_wp2
 gi_loopw [4] (fun i wr => ∃ k : Nat, k ≤ tabN n ∧ i = .int .i64 ((112 * k : Nat) : Int) ∧ J (List.range k) wr ∧ KpC Bt Bn W wr) (fun i _ => 112 * tabN n - (intOf i).toNat)
 case atStart => exact ⟨0, Nat.zero_le _, rfl, h0, rfl, rfl⟩
 case round =>
  obtain ⟨k, hk, rfl, hJ, hkp⟩ := hrel
  have hb1 : wr.cell? ⟨Bt, 0, none⟩ = some (.slice (some ⟨g, o, none⟩) n c) := (World.cell?_of_block (w := W) hkp.1).trans hBt
  have hb2 : wr.cell? ⟨Bn, 0, none⟩ = some (.int .i64 112) := (World.cell?_of_block (w := W) hkp.2).trans hBn
  obtain ⟨i, hi⟩ : ∃ i, i = 112 * k := ⟨_, rfl⟩
  by_cases hlt : k < tabN n
  ·obtain ⟨fn, tmps, assign, body, hyr, hR⟩ := hY k wr.drew hlt (hJd _ _ hJ)
   have hin := (tabN_lt n k).1 hlt
   rw [← hi] at hin ⊢
   have i1 : (i : Int) < (n : Int) := by omega
   have i0 : (0 : Int) ≤ (i : Int) := by omega
   have i2 : (i : Int) ≤ (n : Int) := by omega
   obtain ⟨q, hq⟩ : ∃ q, q = min 112 (n - i) := ⟨_, rfl⟩
   have HKP : Hid (KpC Bt Bn W wr) := hkp
   have HI : Hid (i = 112 * k) := hi
   have e1 : ((n : Int) - (i : Int)).toNat = n - i := by omega
   have hmin : ∀ ty, ∀ w, (Builtin.min_ #[3, 3] ty #[.int .i64 112, .int .i64 ((n - i : Nat) : Int)]).run Tryz.prog w = .ok (.int .i64 (q : Nat)) w := fun ty w => by rw [hq]; exact run_min (n - i) ty w
   have q0 : 0 < q := by omega
   have e2 : IntKind.i64.wrap ((i : Int) + (q : Int)) = ((i + q : Nat) : Int) := by rw [IntKind.wrap_i64]; omega
   have e3 : (i : Int) ≤ ((i + q : Nat) : Int) := by omega
   have e4 : ((i + q : Nat) : Int) ≤ (c : Int) := by omega
   have e5 : (((i + q : Nat) : Int) - (i : Int)).toNat = q := by omega
   have e6 : IntKind.i64.wrap ((i : Int) + 112) = ((112 * (k + 1) : Nat) : Int) := by rw [IntKind.wrap_i64]; omega
   unfold chEnc chV at hyr
   rw [← hi, ← hq] at hyr
   have HJ : Hid (J (List.range k) wr) := hJ
   have HK1 : Hid (k < tabN n) := hlt
   have HJD : Hid _ := hJd
   clear hY h0 hBt hBn hkp hi hq hlt hJ hJd hk
   gi_wp2
   gi_region
   clear hmin
   gi_wp2
   refine ⟨fun h => (by simp [Fence.wide] at h), hR.mono ?_⟩
   rintro e W3 (⟨rfl, hJ3, hk3⟩ | ⟨rfl, hJx3⟩)
   ·have HK4 : Hid (KpC Bt Bn W W3) := ⟨hk3.1.trans HKP.out.1, hk3.2.trans HKP.out.2⟩
    have hb4 : W3.cell? ⟨Bn, 0, none⟩ = some (.int .i64 112) := (World.cell?_of_block (w := wr) hk3.2).trans hb2
    have HJ3 : Hid _ := hJ3
    clear hk3 hb1 hb2 hJ3
    gi_wp2
    go_roundw
    case rel => exact ⟨k + 1, HK1.out, by rfl, by rw [List.range_succ]; exact HJ3.out, HK4.out⟩
    case measure => simp [intOf]; have := HI.out; have := HK1.out; omega
   ·gi_wp2
    refine bodyPost_ret (results_none rfl _ _ _) rfl ?_
    exact ⟨⟨_, rfl⟩, .inr ⟨k, HK1.out, hJx3⟩⟩
  ·obtain rfl : k = tabN n := by omega
   have hin : ¬ 112 * tabN n < n := by unfold tabN; omega
   rw [← hi] at hin ⊢
   have i1 : ¬ (i : Int) < (n : Int) := by omega
   clear hY h0 hBt hBn hkp hi hJd
   gi_wp2
   go_end0
   exact ⟨⟨_, rfl⟩, .inl hJ⟩
set_option maxRecDepth 100000 in
set_option maxHeartbeats 1000000 in
theorem chunk_none (m l Bt Bn c : Nat) (a : Option Addr) (J : World → Prop) (W : World) (hBt : W.cell? ⟨Bt, 0, none⟩ = some (.slice a 0 c)) (h0 : J W) :
  CallsIn Fence.wide m Tryz.prog 127 #[.func (.yield l) #[] #[], .pointer (some ⟨Bt, 0, none⟩), .pointer (some ⟨Bn, 0, none⟩)] W fun e W' => (∃ v, e = .returned v) ∧ J W' := by
 refine callsIn_of_wp Tryz.func127 rfl trivial ?_ rfl
 simp only [Tryz.ntmps127, List.size_toArray, List.length_cons, List.length_nil, Nat.reduceAdd, Nat.reduceSub, Array.replicate_succ, Array.replicate_zero, List.push_toArray, List.append_toArray, List.nil_append, List.cons_append]
 gi_wp2
 gi_loopw [4] (fun i wr => i = .int .i64 0 ∧ J wr ∧ wr = W) (fun _ _ => 0)
 case atStart => exact ⟨rfl, h0, rfl⟩
 case round =>
  obtain ⟨rfl, hJ, rfl⟩ := hrel
  gi_wp2
  go_end0
  exact ⟨⟨_, rfl⟩, hJ⟩
set_option maxRecDepth 100000 in
set_option maxHeartbeats 1000000 in
theorem chunk_in (m : Nat) (a : Option Addr) (n c : Nat) (w : World) :
  CallsIn Fence.wide m Tryz.prog 110 #[.slice a n c, .int .i64 112] w fun e w' => e = .returned (.func (.func 127) #[] #[.pointer (some ⟨w.heap.size, 0, none⟩), .pointer (some ⟨w.heap.size + 1, 0, none⟩)]) ∧ w' = (w.alloc (.cells #[.slice a n c] 37)).alloc (.cells #[.int .i64 112] 3) := by
 refine callsIn_of_wp Tryz.func110 rfl trivial ?_ rfl
 simp only [Tryz.ntmps110, List.size_toArray, List.length_cons, List.length_nil, Nat.reduceAdd, Nat.reduceSub, Array.replicate_succ, Array.replicate_zero, List.push_toArray, List.append_toArray, List.nil_append, List.cons_append]
 gi_wp2
 go_ret
 exact ⟨rfl, rfl⟩
theorem chunk_stops (m Bt Bn g o n c : Nat) (a : Option Addr) (w : World) (hn : n ≤ 100000) (ha : a = some ⟨g, o, none⟩ ∧ n ≤ c ∨ n = 0) (hBt : w.cell? ⟨Bt, 0, none⟩ = some (.slice a n c)) (hBn : w.cell? ⟨Bn, 0, none⟩ = some (.int .i64 112)) :
  SeqStopsK Fence.wide m Tryz.prog 127 #[.pointer (some ⟨Bt, 0, none⟩), .pointer (some ⟨Bn, 0, none⟩)] (chEnc g o n) (KpC Bt Bn) (fun ys => ys = List.range (tabN n)) (fun pre => ∃ k, k < tabN n ∧ pre = List.range (k + 1)) (tabN n) w := fun lo J Jx W hW hJ hJx hY h0 => by
 have hBl := World.block_lt_of_cell? w _ hBt
 have hNl := World.block_lt_of_cell? w _ hBn
 have hBt' : W.cell? ⟨Bt, 0, none⟩ = some (.slice a n c) := (hW.cell (p := ⟨Bt, 0, none⟩) hBl).trans hBt
 have hBn' : W.cell? ⟨Bn, 0, none⟩ = some (.int .i64 112) := (hW.cell (p := ⟨Bn, 0, none⟩) hNl).trans hBn
 rcases ha with ⟨rfl, hc⟩ | rfl
 ·refine (chunk_core m lo Bt Bn g o n c hn hc J Jx (fun k W1 hk hj => ?_) (fun ys W1 hj => ?_) W hBt' hBn' h0).mono ?_
  ·exact hY (List.range k) k W1 hj (by simpa using hk)
  ·exact hJ ys W1 W1.drew none hj ⟨rfl, rfl, rfl, Nat.le_refl _, fun _ _ _ => rfl⟩ (fun r e => by cases e)
  ·rintro e W' ⟨he, hj | ⟨k, hk, hj⟩⟩
   ·exact ⟨he, .inl ⟨_, rfl, hj⟩⟩
   ·exact ⟨he, .inr ⟨_, ⟨k, hk, by rw [List.range_succ]⟩, hj⟩⟩
 ·exact (chunk_none m lo Bt Bn c a (J []) W hBt' h0).mono fun e W' ⟨he, hj⟩ => ⟨he, .inl ⟨_, rfl, by simpa [tabN] using hj⟩⟩
end Go.Proofs.YtlcglapcmdpkfaaGreat
