/- A new heap: what is reached is nothing. -/
import Derived.Test.YtijifabejngdbaaHn5
import Derived.Deep.RegionWith
import Derived.Deep.RegionHeld3
namespace Go.Proofs.Ytijifabejngdbaa
open Go.RowKit
set_option linter.unusedSimpArgs false
set_option linter.unusedVariables false
theorem made0 (W : World) : (Instr.makeSlice 38 (.int .u64 0) (.int .u64 0)).run Try.prog W = .ok (.slice (some ⟨W.heap.size, 0, none⟩) 0 0) (W.alloc (.cells #[] 4)) := by kernel_rfl
theorem then_at {K : Act → World → Prop} {Q : Exit → Act → World → Prop} {a : Act} {W : World} (h : ∀ X, X = W → Exit.then K Q .normal a X) : Exit.then K Q .normal a W := h W rfl
set_option maxRecDepth 100000 in
set_option maxHeartbeats 8000000 in
theorem reach0 (h : Nat) (lo : Option Addr) (n c : Nat) (hn : n ≤ 2) (w : World) (h0 : w.cell? ⟨h, 0, none⟩ = some (.slice none 0 0)) (h1 : w.cell? ⟨h, 1, none⟩ = some (.slice none 0 0)) (hl : ∀ j, j < n → ∃ g, lo = some ⟨g, 0, none⟩ ∧ w.cell? ⟨g, j, none⟩ = some (.slice none 0 0)) :
    Calls Try.prog 46 #[.pointer (some ⟨h, 0, none⟩), .int .u64 0, .slice lo n c] w fun e w' => e = .returned (.slice none 0 0) ∧ Only (fun _ => False) w w' := by
  have HU : Hid (∀ w1, Only (fun _ => False) w w1 → Calls Try.prog 50 #[.pointer (some ⟨h, 0, none⟩)] w1 fun e w' => e = .returned (.int .i64 0) ∧ Only (fun _ => False) w1 w') := fun w1 o => (used_any h none none 0 0 0 0 (by omega) (by omega) w1 (o.cell h0 (fun g => g)) (o.cell h1 (fun g => g))).mono fun e w' h => h
  have HL : Hid (∀ j, j < n → ∃ g, lo = some ⟨g, 0, none⟩ ∧ w.cell? ⟨g, j, none⟩ = some (.slice none 0 0)) := hl
  have hm := made0
  have hw0 : IntKind.u64.wrap 0 = 0 := by decide
  clear h0 h1 hl
  go_enter Try.func46, Try.ntmps46
  go_wp2_with fail
  obtain ⟨W1, hW1⟩ : ∃ W1, W1 = (w.alloc (.cells #[.int .u64 0] 31)).alloc (.cells #[.slice none 0 0] 85) := ⟨_, rfl⟩
  obtain ⟨N, hN⟩ : ∃ N, N = w.heap.size := ⟨_, rfl⟩
  have O1 : Hid (Only (fun _ => False) w W1) := by rw [hW1]; exact ((Only.refl _ w).alloc _).alloc _
  have b0 : W1.heap[N]? = some (.cells #[.int .u64 0] 31) := by rw [hW1]; exact ((Only.refl (fun _ => False) _).alloc _).at (alloc_at _ _ _ hN)
  have b1 : W1.heap[N + 1]? = some (.cells #[.slice none 0 0] 85) := by rw [hW1]; exact alloc_at _ _ _ (by simp [hN])
  have HB : Hid (W1.heap[N]? = some (.cells #[.int .u64 0] 31) ∧ W1.heap[N + 1]? = some (.cells #[.slice none 0 0] 85)) := ⟨b0, b1⟩
  have c0 : W1.cell? ⟨N, 0, none⟩ = some (.int .u64 0) := hb_cell b0 0
  rw [← hW1, ← hN]
  have HW : Hid (∀ W, Only (fun _ => False) W1 W → W.cell? ⟨N, 0, none⟩ = some (.int .u64 0)) := fun W o => o.cell c0 (fun g => g)
  have c0A : ∀ x, (W1.alloc x).cell? ⟨N, 0, none⟩ = some (.int .u64 0) := fun x => HW.out _ ((Only.refl _ _).alloc _)
  have HZ : Hid (N = w.heap.size ∧ W1.heap.size = N + 2) := ⟨hN, by rw [hW1, hN]; simp⟩
  clear b0 b1 hW1 hN
  go_region_with (go_at_call 50; refine (show Calls Try.prog 50 _ _ _ from HU.out _ (O1.out.trans (show Only (fun _ => False) W1 _ by repeat' first | exact Only.refl _ _ | apply Only.alloc | apply Only.drew) (fun _ _ g => g))).mono ?_; rintro e w2 ⟨rfl, o2⟩; have O2 : Hid (Only (fun _ => False) W1 w2) := (Only.trans (show Only (fun _ => False) W1 _ by repeat' first | exact Only.refl _ _ | apply Only.alloc | apply Only.drew) o2 (fun _ _ g => g)); have l2 := HW.out w2 O2.out; have l2A : ∀ x, (w2.alloc x).cell? ⟨N, 0, none⟩ = some (.int .u64 0) := fun x => ((Only.refl (fun _ => False) w2).alloc x).cell l2 (fun g => g); try (have mb := o2.at (alloc_at _ _ _ rfl); have mc : ∀ x, (w2.alloc x).cell? ⟨W1.heap.size, 0, none⟩ = some (.slice none 0 0) := fun x => hb_cell (((Only.refl (fun _ => False) w2).alloc x).at mb) 0; have mf : ∀ x, (w2.alloc x).frozen? ⟨W1.heap.size, 0, none⟩ = false := fun x => hb_froz (((Only.refl (fun _ => False) w2).alloc x).at mb) 0))
  all_goals
    refine then_at fun X hX => ?_
    have OX : Only (fun _ => False) W1 X := by
      rw [hX]
      first
        | exact (O2.out.alloc _).alloc _
        | exact (O2.out.alloc _).setCell _ _ (fun g => by simp at g)
    have OW : Hid (Only (fun _ => False) w X) := O1.out.trans OX (fun _ _ g => g)
    have hO : X.cell? ⟨N + 1, 0, none⟩ = some (.slice none 0 0) := hb_cell (OX.at HB.out.2) 0
    clear hX OX O2 l2 l2A c0 c0A hm hw0 o2
    try clear mb mc mf
    go_wp2
    go_loopw [22] (fun r wr => ∃ i : Nat, r = .int .i64 (i : Int) ∧ i ≤ n ∧ Hid (Only (fun _ => False) X wr)) (fun r _ => n - uOf r)
    case atStart => exact ⟨0, rfl, Nat.zero_le _, Only.refl _ _⟩
    case round =>
      obtain ⟨i, rfl, hi, HI⟩ := hrel
      obtain ⟨w1, rfl⟩ : ∃ w1, w1 = wr := ⟨_, rfl⟩
      by_cases hin : i < n
      · obtain ⟨g, rfl, hg⟩ := HL.out i hin
        have hg1 := HI.out.cell (OW.out.cell hg (fun g => g)) (fun g => g)
        have HBd : Hid (i < n) := hin
        have i1 : (i : Int) < (n : Int) := by omega
        have i0 : (0 : Int) ≤ (i : Int) := by omega
        clear hg
        go_wp2_with fail
        refine (show Calls Try.prog 71 _ _ _ from name0 none 0 0 _ _ _ _ (by omega) (fun j hj => by omega)).mono ?_
        rintro e w3 ⟨rfl, o3⟩
        have HK : Hid (Only (fun _ => False) X w3) := HI.out.trans o3 (fun _ _ g => g)
        clear HI o3 hg1
        go_wp2
        go_roundw
        case rel => exact ⟨i + 1, by go_num, by have := HBd.out; omega, HK⟩
        case measure => simp only [uOf]; have := HBd.out; omega
      · obtain rfl : i = n := by omega
        have i1 : ¬ (i : Int) < (i : Int) := by omega
        have hO1 := HI.out.cell hO (fun g => g)
        have HK : Hid (Only (fun _ => False) w w1) := OW.out.trans HI.out (fun _ _ g => g)
        clear HI hO
        go_wp2
        go_loopw [12] (fun r wr => r = .int .i64 0 ∧ wr = w1) (fun _ _ => 0)
        case atStart => exact ⟨rfl, rfl⟩
        case round =>
          obtain ⟨rfl, rfl⟩ := hrel
          go_wp2
          go_ret
          exact ⟨rfl, HK.out⟩
end Go.Proofs.Ytijifabejngdbaa
