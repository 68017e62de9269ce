/- What Full answers; the calls on a nil disk; that the law's first look at the program comes out true. -/
import Derived.Test.YtaeghpfncfkgfaaT5
namespace Go.Proofs.Ytaeghpfncfkgfaa
open Go.RowKit
set_option linter.unusedSimpArgs false
set_option linter.unusedVariables false

/-- The bytes of a sector whose first bytes are z's, up to k, the others 0. -/
def fullF (z : Nat → Int) (k : Nat) : Nat → Int := fun j => if j < k then z j else 0
theorem fullF_set (z : Nat → Int) (k : Nat) : (secL (fullF z k)).toArray.setIfInBounds k (.int .u8 (z k)) = (secL (fullF z (k + 1))).toArray := by
  apply Array.ext
  · simp [secL_length]
  · intro i h1 h2
    simp [secL_length] at h1 h2
    simp [secL, Array.getElem_setIfInBounds, fullF]
    by_cases e : k = i
    · subst e; simp
    · simp [e]
      by_cases l : i < k
      · simp [l]; intro; omega
      · simp [l]; intro; omega
theorem secL_congr (f g : Nat → Int) (h : ∀ j, j < 32 → f j = g j) : secL f = secL g := by
  simp only [secL]
  apply List.map_congr_left
  intro j hj
  rw [h j (by simpa using hj)]
theorem fullF_big (z : Nat → Int) (n : Nat) (h : 32 ≤ n) : secL (fullF z 32) = secL (fullF z n) :=
  secL_congr _ _ fun j hj => by simp only [fullF]; rw [if_pos hj, if_pos (by omega)]
theorem mk32 (z : Nat → Int) (w : World) : (Instr.makeSlice 31 (.int .i64 32) (.int .i64 32)).run Try.prog w = .ok (.slice (some ⟨w.heap.size, 0, none⟩) 32 32) (w.alloc (.cells (secL (fullF z 0)).toArray 5)) := by kernel_rfl

set_option maxHeartbeats 400000 in
theorem full_nil (w : World) :
    Calls Try.prog 24 #[.slice none 0 0] w fun e w' => e = .returned (.slice (some ⟨w.heap.size, 0, none⟩) 32 32) ∧ w' = w.alloc (.cells (secL (fun _ => 0)).toArray 5) := by
  have hmk := mk32 (fun _ => 0)
  have e0 : fullF (fun _ => 0) 0 = fun _ => 0 := by funext j; simp [fullF]
  rw [e0] at hmk
  clear e0
  go_enter Try.func24, Try.ntmps24
  go_wp2
  refine wp_loop_rounds 1 ?_; rw [rounds_succ]
  go_wp2
  go_ret
  exact ⟨rfl, rfl⟩

set_option maxHeartbeats 400000 in
theorem full_core (A : Nat → Array Value) (g o len cap : Nat) (z : Nat → Int) (w : World) (hl : len ≤ maxLen) (hb : ∀ j, j < len → w.cell? ⟨g, o + j, none⟩ = some (.int .u8 (z j))) (hg : g < w.heap.size)
    (hmk : ∀ w, (Instr.makeSlice 31 (.int .i64 32) (.int .i64 32)).run Try.prog w = .ok (.slice (some ⟨w.heap.size, 0, none⟩) 32 32) (w.alloc (.cells (A 0) 5))) (hs : ∀ k, (A k).size = 32) (hset : ∀ k, (A k).setIfInBounds k (.int .u8 (z k)) = A (k + 1)) (hbig : 32 ≤ len → A 32 = A len) :
    Calls Try.prog 24 #[.slice (some ⟨g, o, none⟩) len cap] w fun e w' => e = .returned (.slice (some ⟨w.heap.size, 0, none⟩) 32 32) ∧ w' = w.alloc (.cells (A len) 5) := by
  unfold maxLen at hl
  have HS : Hid (∀ k, (A k).setIfInBounds k (.int .u8 (z k)) = A (k + 1)) := hset
  have HB : Hid (32 ≤ len → A 32 = A len) := hbig
  clear hset hbig
  go_enter Try.func24, Try.ntmps24
  go_wp2
  clear hmk
  go_loopw [4] (fun i wr => ∃ k : Nat, k ≤ len ∧ k ≤ 32 ∧ i = .int .i64 k ∧ wr = w.alloc (.cells (A k) 5)) (fun i _ => 32 - (intOf i).toNat)
  case atStart => exact ⟨0, by omega, by omega, rfl, rfl⟩
  case round =>
    obtain ⟨k, hk, hk2, rfl, rfl⟩ := hrel
    by_cases h1 : k < len
    · by_cases h2 : k < 32
      · have hc := hb k h1
        clear hb
        have hsz := hs k
        clear hs
        go_wp2
        go_roundw
        case rel => exact ⟨k + 1, by omega, by omega, by go_num, by rw [HS.out]⟩
        case measure => simp [intOf]; omega
      · have e : k = 32 := by omega
        subst e
        clear hb hs
        go_wp2
        go_ret
        exact ⟨rfl, by rw [HB.out (by omega)]⟩
    · have e : k = len := by omega
      subst e
      clear hb hs
      go_wp2
      go_ret
      exact ⟨rfl, rfl⟩
theorem full_any (g o len cap : Nat) (z : Nat → Int) (w : World) (hl : len ≤ maxLen) (hb : ∀ j, j < len → w.cell? ⟨g, o + j, none⟩ = some (.int .u8 (z j))) (hg : g < w.heap.size) :
    Calls Try.prog 24 #[.slice (some ⟨g, o, none⟩) len cap] w fun e w' => e = .returned (.slice (some ⟨w.heap.size, 0, none⟩) 32 32) ∧ w' = w.alloc (.cells (secL (fullF z len)).toArray 5) :=
  full_core (fun k => (secL (fullF z k)).toArray) g o len cap z w hl hb hg (mk32 z) (fun k => by simp [secL_length]) (fullF_set z) (fun h => by rw [fullF_big z len h])

set_option maxHeartbeats 400000 in
theorem read_nil (s : Int) (w : World) :
    Calls Try.prog 25 #[.pointer none, .int .i64 s] w fun e w' => e = .returned (.tuple #[.slice none 0 0, .int .i64 2]) ∧ w' = w := by
  go_enter Try.func25, Try.ntmps25
  go_wp2
  go_ret2
  exact ⟨rfl, rfl⟩
set_option maxHeartbeats 400000 in
theorem write_nil (s : Int) (x : Addr) (c : Nat) (w : World) :
    Calls Try.prog 21 #[.pointer none, .int .i64 s, .slice (some x) 32 c] w fun e w' => e = .returned (.int .i64 2) ∧ w' = w := by
  go_enter Try.func21, Try.ntmps21
  go_wp2
  go_ret
  exact ⟨rfl, rfl⟩
set_option maxHeartbeats 400000 in
theorem barrier_nil (w : World) :
    Calls Try.prog 17 #[.pointer none] w fun e w' => e = .returned (.int .i64 2) ∧ w' = w := by
  go_enter Try.func17, Try.ntmps17
  go_wp2
  go_ret
  exact ⟨rfl, rfl⟩
set_option maxHeartbeats 400000 in
theorem live_nil (n : Int) (w : World) :
    Calls Try.prog 23 #[.pointer none, .int .i64 n] w fun e w' => e = .returned (.int .i64 2) ∧ w' = w := by
  go_enter Try.func23, Try.ntmps23
  go_wp2
  go_ret
  exact ⟨rfl, rfl⟩
set_option maxHeartbeats 400000 in
theorem crash_nil (k : Value) (n c : Int) (w : World) :
    Calls Try.prog 19 #[.pointer none, k, .int .i64 n, .int .i64 c] w fun e w' => e = .returned (.int .i64 2) ∧ w' = w := by
  go_enter Try.func19, Try.ntmps19
  go_wp2
  go_ret
  exact ⟨rfl, rfl⟩
set_option maxHeartbeats 400000 in
theorem len_nil (w : World) :
    Calls Try.prog 15 #[.pointer none] w fun e w' => e = .returned (.int .i64 0) ∧ w' = w := by
  go_enter Try.func15, Try.ntmps15
  go_wp2
  go_ret
  exact ⟨rfl, rfl⟩
set_option maxHeartbeats 400000 in
theorem pending_nil (w : World) :
    Calls Try.prog 14 #[.pointer none] w fun e w' => e = .returned (.int .i64 0) ∧ w' = w := by
  go_enter Try.func14, Try.ntmps14
  go_wp2
  go_ret
  exact ⟨rfl, rfl⟩
set_option maxHeartbeats 400000 in
theorem copy_nil (w : World) :
    Calls Try.prog 12 #[.pointer none] w fun e w' => e = .returned (.pointer none) ∧ w' = w := by
  go_enter Try.func12, Try.ntmps12
  go_wp2
  go_ret
  exact ⟨rfl, rfl⟩

theorem slice7 (w : World) : (Instr.buildSlice 31 1 #[(0, .int .u8 7)]).run Try.prog w = .ok (.slice (some ⟨w.heap.size, 0, none⟩) 1 1) (w.alloc (.cells #[.int .u8 7] 5)) := by kernel_rfl
theorem new_any (n : Nat) (w : World) (h1 : 1 ≤ n) (h2 : n ≤ 8192) :
    Calls Try.prog 10 #[.int .i64 n] w fun e w' => ∃ p S, e = .returned (.tuple #[.pointer (some ⟨p, 0, none⟩), .int .i64 0]) ∧
      DiskAt w' w.heap.size p S (.slice none 0 0) ⟨n, fun _ _ => 0, [], -1⟩ ∧ Only (fun _ => False) w w' :=
  (new_ok n w h1 h2).mono fun _ _ h => ⟨_, _, h.1, h.2.1, h.2.2.1⟩

set_option maxHeartbeats 400000 in
/-- A program that does something. -/
theorem awake_any (w : World) : Calls Try.prog 9 #[] w fun e w' => e = .returned (.bool true) ∧ Only (fun _ => False) w w' := by
  have h7 := slice7
  go_enter Try.func9, Try.ntmps9
  go_wp2_with fail
  refine (new_any 2 w (by omega) (by omega)).mono ?_
  rintro e w1 ⟨p, S, rfl, hd, ho⟩
  go_wp2_with fail
  refine (full_any w1.heap.size 0 1 1 (fun _ => 7) _ (by decide) (fun j hj => ?_) (by simp)).mono ?_
  · rw [cell_of_row _ _ _ _ _ _ (heap_alloc_new w1 _)]
    have : j = 0 := by omega
    subst this; rfl
  rintro e w2 ⟨rfl, hw2⟩
  have o12 : Only (fun _ => False) w1 w2 := by rw [hw2]; exact ((Only.refl _ w1).alloc _).alloc _
  have hd2 := hd.frame o12 (fun _ _ h => h)
  have hr2 : w2.rangeAt (w1.heap.size + 1) 0 (secL (fullF (fun _ => 7) 1)) := fun j v hv => by
    have := heap_alloc2_new w1 (.cells #[.int .u8 7] 5) (.cells (secL (fullF (fun _ => 7) 1)).toArray 5)
    rw [hw2, cell_of_row _ _ _ _ _ _ this]
    simpa using hv
  have hB2 : w.heap.size ≤ w2.heap.size := Nat.le_trans ho.size o12.size
  clear hw2
  go_wp2_with fail
  refine (write_ok p S 1 _ 0 32 _ _ _ _ w2 hd2 (by simp) (by simp) hr2 hB2 (by simp)).mono ?_
  rintro e w3 ⟨rfl, pv, hd3, o23, hpv⟩
  go_wp2_with fail
  refine (read_any p S 1 _ _ _ w3 hd3 (by simp [aged]) (by simp)).mono ?_
  rintro e w4 ⟨rfl, hw4⟩
  have o34 : Only (fun _ => False) w3 w4 := by rw [hw4]; exact (Only.refl _ w3).alloc _
  have hc4 : w4.cell? ⟨w3.heap.size, 0, none⟩ = some (.int .u8 7) := by
    rw [hw4, cell_of_row _ _ _ _ _ _ (heap_alloc_new w3 _)]
    simp [upd, fullF, secL]
  have hend : Only (fun _ => False) w w4 := by
    refine Only.trans (Only.trans (ho.trans o12 (fun _ _ h => h)) (bs' := diskB p S (.slice none 0 0)) o23 (fun i hi h => ?_)) o34 (fun _ _ h => h)
    have := (hd2.lt i h).1
    omega
  have HE : Hid (Only (fun _ => False) w w4) := hend
  clear hw4 o34 hend o23 hd3 hd2 o12 hr2 ho hd
  go_wp2
  go_ret
  exact ⟨rfl, HE.out⟩
end Go.Proofs.Ytaeghpfncfkgfaa
