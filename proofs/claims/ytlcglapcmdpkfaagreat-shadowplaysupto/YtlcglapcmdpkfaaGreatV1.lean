import Derived.Test.YtlcglapcmdpkfaaGreatM3
import Derived.RangeFuncNested
import Derived.RangeFuncBound
import Derived.RangeFuncCalls
import Derived.RangeFuncLeaves
import Derived.RangeFuncBox
import Derived.Shelf.Abstract
import Derived.Shelf.RegionOpen
import Derived.OwnWalkIn
import Derived.TacticsInMore
import Derived.LoopNIn
import Derived.LoopIn
namespace Go.Proofs.YtlcglapcmdpkfaaGreat
open Go.RowKit
set_option linter.unusedSimpArgs false
set_option linter.unusedVariables false
attribute [local go_sem] Oper.semAt_some
def KpP (Pb : Nat) (W W' : World) : Prop := W'.heap[Pb]? = W.heap[Pb]?
def intEnc (x : Int) : Array Value := #[.int .i64 x]
theorem take_succ_getD (zs : List Int) (k : Nat) (h : k < zs.length) : zs.take (k + 1) = zs.take k ++ [zs.getD k 0] := by
 rw [List.take_succ_eq_append_getElem h]
 simp [List.getD, h]
def IntsIn (w : World) (Pb : Nat) (sv : Value) (zs : List Int) : Prop :=
 (sv = .slice none 0 0 ∧ zs = []) ∨ ∃ off cap, sv = .slice (some ⟨Pb, off, none⟩) zs.length cap ∧ ∀ j, j < zs.length → w.cell? ⟨Pb, off + j, none⟩ = some (.int .i64 (zs.getD j 0))
set_option maxRecDepth 100000 in
set_option maxHeartbeats 2000000 in
theorem values_core (m : Nat) (l Bs Pb off cap : Nat) (zs : List Int) (hlen : zs.length ≤ maxLen) (J Jx : List Int → World → Prop)
  (hY : ∀ k W, k < zs.length → J (zs.take k) W → YieldAt Fence.wide (m - 1) Tryz.prog l (intEnc (zs.getD k 0)) W fun e W' =>
   (e = .returned (.bool true) ∧ J (zs.take k ++ [zs.getD k 0]) W' ∧ KpP Pb W W') ∨ (e = .returned (.bool false) ∧ Jx (zs.take k ++ [zs.getD k 0]) W'))
  (W : World) (hBs : W.cell? ⟨Bs, 0, none⟩ = some (.slice (some ⟨Pb, off, none⟩) zs.length cap)) (hc : ∀ j, j < zs.length → W.cell? ⟨Pb, off + j, none⟩ = some (.int .i64 (zs.getD j 0))) (h0 : J [] W) :
  CallsIn Fence.wide m Tryz.prog 118 #[.func (.yield l) #[] #[], .pointer (some ⟨Bs, 0, none⟩)] W fun e W' => (∃ v, e = .returned v) ∧ (J zs W' ∨ ∃ k, k ≤ zs.length ∧ Jx (zs.take k) W') := by
 unfold maxLen at hlen
 refine callsIn_of_wp Tryz.func118 rfl trivial ?_ rfl
 simp only [Tryz.ntmps118, List.size_toArray, List.length_cons, List.length_nil, Nat.reduceAdd, Nat.reduceSub, Array.replicate_succ, Array.replicate_zero, List.push_toArray, List.append_toArray, List.nil_append, List.cons_append]
 gi_wp2
 gi_loopw [7] (fun i wr => ∃ k : Nat, k ≤ zs.length ∧ i = .int .i64 k ∧ J (zs.take k) wr ∧ KpP Pb W wr) (fun i _ => zs.length - (intOf i).toNat)
 case atStart => exact ⟨0, Nat.zero_le _, rfl, h0, rfl⟩
 case round =>
  obtain ⟨k, hk, rfl, hJ, hkp⟩ := hrel
  by_cases hlt : k < zs.length
  ·obtain ⟨fn, tmps, assign, body, hyr, hR⟩ := hY k wr hlt hJ
   have hcx : wr.cell? ⟨Pb, off + k, none⟩ = some (.int .i64 (zs.getD k 0)) := (World.cell?_of_block (w := W) (show wr.heap[Pb]? = W.heap[Pb]? from hkp)).trans (hc k hlt)
   have hj0 : (0 : Int) ≤ (k : Int) := Int.natCast_nonneg _
   have hj1 : (k : Int) < (zs.length : Int) := by omega
   have HT := take_succ_getD zs k hlt
   obtain ⟨z, hz⟩ : ∃ z, z = zs.getD k 0 := ⟨_, rfl⟩
   rw [← hz] at hyr hR hcx HT
   have HT' : Hid _ := HT
   have HKP : Hid (KpP Pb W wr) := hkp
   unfold intEnc at hyr
   clear hY hc h0 hBs hkp hz HT hJ
   gi_wp2
   refine ⟨fun h => (by simp [Fence.wide] at h), hR.mono ?_⟩
   rintro e W3 (⟨rfl, hJ3, hk3⟩ | ⟨rfl, hJx3⟩)
   ·have HK4 : Hid (KpP Pb W W3) := Eq.trans hk3 HKP.out
    clear hk3
    gi_wp2
    go_roundw
    case rel => exact ⟨k + 1, by omega, by simp, by rw [HT'.out]; exact hJ3, HK4.out⟩
    case measure => simp [intOf]; omega
   ·gi_wp2
    refine bodyPost_ret (results_none rfl _ _ _) rfl ?_
    exact ⟨⟨_, rfl⟩, .inr ⟨k + 1, by omega, by rw [HT'.out]; exact hJx3⟩⟩
  ·obtain rfl : k = zs.length := by omega
   rw [List.take_length] at hJ
   clear hY hc h0 hBs hkp
   gi_wp2
   go_end0
   exact ⟨⟨_, rfl⟩, .inl hJ⟩
set_option maxRecDepth 100000 in
set_option maxHeartbeats 1000000 in
theorem values_none (m l Bs : Nat) (J : World → Prop) (W : World) (hBs : W.cell? ⟨Bs, 0, none⟩ = some (.slice none 0 0)) (h0 : J W) :
  CallsIn Fence.wide m Tryz.prog 118 #[.func (.yield l) #[] #[], .pointer (some ⟨Bs, 0, none⟩)] W fun e W' => (∃ v, e = .returned v) ∧ J W' := by
 refine callsIn_of_wp Tryz.func118 rfl trivial ?_ rfl
 simp only [Tryz.ntmps118, List.size_toArray, List.length_cons, List.length_nil, Nat.reduceAdd, Nat.reduceSub, Array.replicate_succ, Array.replicate_zero, List.push_toArray, List.append_toArray, List.nil_append, List.cons_append]
 gi_wp2
 gi_loopw [7] (fun i wr => i = .int .i64 0 ∧ J wr) (fun _ _ => 0)
 case atStart => exact ⟨rfl, h0⟩
 case round =>
  obtain ⟨rfl, hJ⟩ := hrel
  gi_wp2
  go_end0
  exact ⟨⟨_, rfl⟩, hJ⟩
set_option maxRecDepth 100000 in
set_option maxHeartbeats 1000000 in
theorem values_in (m : Nat) (a : Option Addr) (n c : Nat) (w : World) :
  CallsIn Fence.wide m Tryz.prog 102 #[.slice a n c] w fun e w' => e = .returned (.func (.func 118) #[] #[.pointer (some ⟨w.heap.size, 0, none⟩)]) ∧ w' = w.alloc (.cells #[.slice a n c] 76) := by
 refine callsIn_of_wp Tryz.func102 rfl trivial ?_ rfl
 simp only [Tryz.ntmps102, List.size_toArray, List.length_cons, List.length_nil, Nat.reduceAdd, Nat.reduceSub, Array.replicate_succ, Array.replicate_zero, List.push_toArray, List.append_toArray, List.nil_append, List.cons_append]
 gi_wp2
 go_ret
 exact ⟨rfl, rfl⟩
theorem values_stops (m Bs Pb : Nat) (sv : Value) (zs : List Int) (w : World) (hl : zs.length ≤ maxLen) (hBs : w.cell? ⟨Bs, 0, none⟩ = some sv) (hi : IntsIn w Pb sv zs) (hP : Pb < w.heap.size) :
  SeqStopsK Fence.wide m Tryz.prog 118 #[.pointer (some ⟨Bs, 0, none⟩)] intEnc (KpP Pb) (fun ys => ys = zs) (fun _ => True) zs.length w := fun lo J Jx W hW _ _ hY h0 => by
 have hBl := World.block_lt_of_cell? w _ hBs
 have hBs' : W.cell? ⟨Bs, 0, none⟩ = some sv := (hW.cell (p := ⟨Bs, 0, none⟩) hBl).trans hBs
 rcases hi with ⟨rfl, rfl⟩ | ⟨off, cap, rfl, hc⟩
 ·exact (values_none m lo Bs (J []) W hBs' h0).mono fun e W' ⟨he, hj⟩ => ⟨he, .inl ⟨_, rfl, hj⟩⟩
 ·refine (values_core m lo Bs Pb off cap zs hl J Jx (fun k W1 hk hJ => ?_) W hBs' (fun j hj => (hW.cell (p := ⟨Pb, off + j, none⟩) hP).trans (hc j hj)) h0).mono ?_
  ·exact hY (zs.take k) (zs.getD k 0) W1 hJ (by rw [List.length_take]; omega)
  ·rintro e W' ⟨he, hj | ⟨k, _, hj⟩⟩
   ·exact ⟨he, .inl ⟨_, rfl, hj⟩⟩
   ·exact ⟨he, .inr ⟨_, trivial, hj⟩⟩
end Go.Proofs.YtlcglapcmdpkfaaGreat
