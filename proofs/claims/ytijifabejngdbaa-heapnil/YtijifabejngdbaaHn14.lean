/- Live of the heap with one object; awake; the walk of HeapNil. -/
import Derived.Test.YtijifabejngdbaaHn13
namespace Go.Proofs.Ytijifabejngdbaa
open Go.RowKit
set_option linter.unusedSimpArgs false
set_option linter.unusedVariables false
set_option maxRecDepth 100000 in
set_option maxHeartbeats 4000000 in
theorem size1 (h m B : Nat) (a : Option Addr) (c R K q k : Nat) (w : World) (hO : HpO w h m B a c R K) (hq : w.cell? ⟨q, 0, none⟩ = some (.int .u64 0)) :
    Calls Try.prog 45 #[.pointer (some ⟨h, 0, none⟩), .slice (some ⟨q, 0, none⟩) 1 k] w fun e w' => e = .returned (.int .i64 3) ∧ Only (fun _ => False) w w' := by
  have HA : Hid _ := at1 h m B a c R K w hO
  clear hO
  go_enter Try.func45, Try.ntmps45
  go_wp2
  go_loopw [10, 5] (fun r s wr => ∃ i : Int, r = .int .i64 i ∧ ((i = 0 ∧ s = .int .i64 0 ∧ wr = w) ∨ (i = 1 ∧ s = .int .i64 3 ∧ Hid (Only (fun _ => False) w wr)))) (fun r _ _ => 1 - uOf r)
  case atStart => exact ⟨0, rfl, .inl ⟨rfl, rfl, rfl⟩⟩
  case round =>
    obtain ⟨i, rfl, ⟨rfl, rfl, hwr⟩ | ⟨rfl, rfl, H1⟩⟩ := hrel
    · rw [hwr]
      clear hwr
      go_wp2_with fail
      refine (show Calls Try.prog 48 _ _ _ from HA.out).mono ?_
      rintro e w1 ⟨rfl, o1⟩
      have O1 : Hid (Only (fun _ => False) w w1) := o1
      clear HA o1 hq
      go_wp2
      go_roundw
      case rel => exact ⟨1, rfl, .inr ⟨rfl, rfl, O1⟩⟩
      case measure => decide
    · clear HA hq
      go_wp2
      go_ret
      exact ⟨rfl, H1.out⟩
theorem one_list (R K : Nat) (W : World) : (Instr.buildSlice 110 1 #[(0, .slice (some ⟨R, 0, none⟩) 1 K)]).run Try.prog W = .ok (.slice (some ⟨W.heap.size, 0, none⟩) 1 1) (W.alloc (.cells #[.slice (some ⟨R, 0, none⟩) 1 K] 50)) := by kernel_rfl
set_option maxRecDepth 100000 in
set_option maxHeartbeats 8000000 in
theorem live1 (h m B : Nat) (a : Option Addr) (c R K : Nat) (w : World) (hO : HpO w h m B a c R K) :
    Calls Try.prog 15 #[.pointer (some ⟨h, 0, none⟩)] w fun e w' => e = .returned (.int .i64 3) ∧ Only (fun _ => False) w w' := by
  have c4 := hO.hp.cells.2.2.2.2
  have h1 := one_list R K
  have HR : Hid (∀ X, Only (fun _ => False) w X → X.heap[w.heap.size]? = some (.cells #[.slice (some ⟨R, 0, none⟩) 1 K] 50) → Calls Try.prog 46 #[.pointer (some ⟨h, 0, none⟩), .int .u64 0, .slice (some ⟨w.heap.size, 0, none⟩) 1 1] X fun e w' => ∃ q k, e = .returned (.slice (some ⟨q, 0, none⟩) 1 k) ∧ Hid (w'.cell? ⟨q, 0, none⟩ = some (.int .u64 0) ∧ Only (fun _ => False) X w')) := fun X o hX => reach1 h m B a c R K w.heap.size X (hO.only o) hX
  have HS : Hid (∀ q k X, Only (fun _ => False) w X → X.cell? ⟨q, 0, none⟩ = some (.int .u64 0) → Calls Try.prog 45 #[.pointer (some ⟨h, 0, none⟩), .slice (some ⟨q, 0, none⟩) 1 k] X fun e w' => e = .returned (.int .i64 3) ∧ Only (fun _ => False) X w') := fun q k X o hX => size1 h m B a c R K q k X (hO.only o) hX
  clear hO
  go_enter Try.func15, Try.ntmps15
  go_wp2_with fail
  go_region_with (first
    | (go_at_call 46; refine (show Calls Try.prog 46 _ _ _ from HR.out _ (by repeat' first | exact Only.refl _ _ | apply Only.drew | apply Only.alloc) (by exact alloc_at w _ _ rfl)).mono ?_; rintro e w1 ⟨q, k, rfl, h1⟩; have O1 : Hid (Only (fun _ => False) w w1) := (Only.trans (show Only (fun _ => False) w _ by repeat' first | exact Only.refl _ _ | apply Only.drew | apply Only.alloc) h1.out.2 (fun _ _ g => g)))
    | (go_at_call 45; refine (show Calls Try.prog 45 _ _ _ from HS.out q k _ O1.out h1.out.1).mono ?_; rintro e w2 ⟨rfl, o2⟩))
  all_goals
    have O2 : Hid (Only (fun _ => False) w w2) := O1.out.trans o2 (fun _ _ g => g)
    go_wp2
    go_ret
    exact ⟨rfl, O2.out⟩
set_option maxRecDepth 100000 in
set_option maxHeartbeats 4000000 in
theorem hawake (w : World) : Calls Try.prog 8 #[] w fun e w' => e = .returned (.bool true) ∧ Only (fun _ => False) w w' := by
  have H1 := new9
  go_enter Try.func8, Try.ntmps8
  go_wp2_with fail
  refine (show Calls Try.prog 9 _ _ _ from H1 _).mono ?_
  rintro e w1 ⟨h, m, rfl, G1⟩
  clear H1
  have HA : Hid _ := alloc1 h m w1 G1.out.1
  go_wp2_with fail
  refine (show Calls Try.prog 24 _ _ _ from HA.out).mono ?_
  rintro e w2 ⟨rfl, a, c, R, K, G2⟩
  clear HA
  have HR : Hid _ := roots_any h (some ⟨R, 0, none⟩) 1 K w2 G2.out.1.hp.cells.2.2.2.2
  go_wp2_with fail
  refine (show Calls Try.prog 30 _ _ _ from HR.out).mono ?_
  rintro e w3 ⟨rfl, hq⟩
  rw [hq]
  clear hq HR w3
  have HL : Hid _ := live1 h m w1.heap.size a c R K w2 G2.out.1
  go_wp2_with fail
  refine (show Calls Try.prog 15 _ _ _ from HL.out).mono ?_
  rintro e w4 ⟨rfl, o4⟩
  have O4 : Hid (Only (fun _ => False) w w4) := by
    obtain ⟨_, b1, b2, o1⟩ := G1.out
    refine (o1.trans G2.out.2 (fun i hi e => ?_)).trans o4 (fun _ _ g => g)
    rcases e with e | e <;> omega
  clear HL o4 G1 G2
  go_wp2
  go_ret
  exact ⟨rfl, O4.out⟩
set_option maxRecDepth 100000 in
set_option maxHeartbeats 8000000 in
theorem hnil_walk (w : World) : Calls Try.prog 6 #[] w fun e w' => e = .returned (.bool true) ∧ Below w.heap.size w w' := by
  have N1 := ninfo
  have N2 := nword
  have N3 := nsame
  have N4 := nminor
  have N5 := nmajor
  have N6 := nwalk
  have N7 := nalloc
  have N8 := nnum
  have N9 := ndup
  have N10 := nslide
  have N11 := nget
  have N12 := nset
  have N13 := nroots
  have N14 := nlive
  have N15 := nused
  have N16 := ncopy
  have HA : Hid _ := hawake w
  go_enter Try.func6, Try.ntmps6
  go_wp2_with (first
    | (go_at_call 20; refine (N1 _ _).mono ?_; rintro e w' ⟨rfl, hq⟩; rw [hq]; clear hq)
    | (go_at_call 21; refine (N2 _ _).mono ?_; rintro e w' ⟨rfl, hq⟩; rw [hq]; clear hq)
    | (go_at_call 22; refine (N3 _ _ _).mono ?_; rintro e w' ⟨rfl, hq⟩; rw [hq]; clear hq)
    | (go_at_call 18; refine (N4 _).mono ?_; rintro e w' ⟨rfl, hq⟩; rw [hq]; clear hq)
    | (go_at_call 16; refine (N5 _).mono ?_; rintro e w' ⟨rfl, hq⟩; rw [hq]; clear hq)
    | (go_at_call 23; refine (N6 _).mono ?_; rintro e w' ⟨rfl, hq⟩; rw [hq]; clear hq)
    | (go_at_call 24; refine (N7 _ _ _ _).mono ?_; rintro e w' ⟨rfl, hq⟩; rw [hq]; clear hq)
    | (go_at_call 25; refine (N8 _ _).mono ?_; rintro e w' ⟨rfl, hq⟩; rw [hq]; clear hq)
    | (go_at_call 26; refine (N9 _ _).mono ?_; rintro e w' ⟨rfl, hq⟩; rw [hq]; clear hq)
    | (go_at_call 27; refine (N10 _ _ _).mono ?_; rintro e w' ⟨rfl, hq⟩; rw [hq]; clear hq)
    | (go_at_call 28; refine (N11 _ _ _).mono ?_; rintro e w' ⟨rfl, hq⟩; rw [hq]; clear hq)
    | (go_at_call 29; refine (N12 _ _ _ _).mono ?_; rintro e w' ⟨rfl, hq⟩; rw [hq]; clear hq))
  refine (show Calls Try.prog 8 _ _ _ from HA.out).mono ?_
  rintro e w1 ⟨rfl, o1⟩
  have O1 : Hid (Only (fun _ => False) w w1) := o1
  clear HA o1
  go_wp2_with (first
    | (go_at_call 30; refine (N13 _).mono ?_; rintro e w' ⟨rfl, hq⟩; rw [hq]; clear hq)
    | (go_at_call 15; refine (N14 _).mono ?_; rintro e w' ⟨rfl, hq⟩; rw [hq]; clear hq)
    | (go_at_call 17; refine (N15 _).mono ?_; rintro e w' ⟨rfl, hq⟩; rw [hq]; clear hq)
    | (go_at_call 11; refine (N16 _).mono ?_; rintro e w' ⟨rfl, hq⟩; rw [hq]; clear hq))
  go_ret
  exact ⟨rfl, O1.out.below (fun _ h => h.elim) (Nat.le_refl _)⟩
end Go.Proofs.Ytijifabejngdbaa
