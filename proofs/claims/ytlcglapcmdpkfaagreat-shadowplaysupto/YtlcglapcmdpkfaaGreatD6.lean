import Derived.Test.YtlcglapcmdpkfaaGreatD5
namespace Go.Proofs.YtlcglapcmdpkfaaGreat
open Go.RowKit
set_option linter.unusedSimpArgs false
set_option linter.unusedVariables false
def fullF (z : Nat → Int) (k : Nat) : Nat → Int := fun j => if j < k then z j else 0
theorem fullF_set (z : Nat → Int) (k : Nat) : (secL (fullF z k)).toArray.setIfInBounds k (.int .u8 (z k)) = (secL (fullF z (k + 1))).toArray := by
 apply Array.ext
 ·simp [secL_length]
 ·intro i h1 h2
  simp [secL_length] at h1 h2
  simp [secL, Array.getElem_setIfInBounds, fullF]
  by_cases e : k = i
  ·subst e; simp
  ·simp [e]
   by_cases l : i < k
   ·simp [l]; intro; omega
   ·simp [l]; intro; omega
theorem secL_congr (f g : Nat → Int) (h : ∀ j, j < 32 → f j = g j) : secL f = secL g := by
 simp only [secL]
 apply List.map_congr_left
 intro j hj
 rw [h j (by simpa using hj)]
theorem fullF_big (z : Nat → Int) (n : Nat) (h : 32 ≤ n) : secL (fullF z 32) = secL (fullF z n) :=
 secL_congr _ _ fun j hj => by simp only [fullF]; rw [if_pos hj, if_pos (by omega)]
theorem mk32 (z : Nat → Int) (w : World) : (Instr.makeSlice 37 (.int .i64 32) (.int .i64 32)).run Tryz.prog w = .ok (.slice (some ⟨w.heap.size, 0, none⟩) 32 32) (w.alloc (.cells (secL (fullF z 0)).toArray 5)) := by kernel_rfl
set_option maxHeartbeats 400000 in
theorem full_core (A : Nat → Array Value) (g o len cap : Nat) (z : Nat → Int) (w : World) (hl : len ≤ maxLen) (hb : ∀ j, j < len → w.cell? ⟨g, o + j, none⟩ = some (.int .u8 (z j))) (hg : g < w.heap.size)
  (hmk : ∀ w, (Instr.makeSlice 37 (.int .i64 32) (.int .i64 32)).run Tryz.prog w = .ok (.slice (some ⟨w.heap.size, 0, none⟩) 32 32) (w.alloc (.cells (A 0) 5))) (hs : ∀ k, (A k).size = 32) (hset : ∀ k, (A k).setIfInBounds k (.int .u8 (z k)) = A (k + 1)) (hbig : 32 ≤ len → A 32 = A len) :
  Calls Tryz.prog 41 #[.slice (some ⟨g, o, none⟩) len cap] w fun e w' => e = .returned (.slice (some ⟨w.heap.size, 0, none⟩) 32 32) ∧ w' = w.alloc (.cells (A len) 5) := by
 unfold maxLen at hl
 have HS : Hid (∀ k, (A k).setIfInBounds k (.int .u8 (z k)) = A (k + 1)) := hset
 have HB : Hid (32 ≤ len → A 32 = A len) := hbig
 clear hset hbig
 go_enter Tryz.func41, Tryz.ntmps41
 go_wp2
 clear hmk
 go_loopw [4] (fun i wr => ∃ k : Nat, k ≤ len ∧ k ≤ 32 ∧ i = .int .i64 k ∧ wr = w.alloc (.cells (A k) 5)) (fun i _ => 32 - (intOf i).toNat)
 case atStart => exact ⟨0, by omega, by omega, rfl, rfl⟩
 case round =>
  obtain ⟨k, hk, hk2, rfl, rfl⟩ := hrel
  by_cases h1 : k < len
  ·by_cases h2 : k < 32
   ·have hc := hb k h1
    clear hb
    have hsz := hs k
    clear hs
    go_wp2
    go_roundw
    case rel => exact ⟨k + 1, by omega, by omega, by go_num, by rw [HS.out]⟩
    case measure => simp [intOf]; omega
   ·have e : k = 32 := by omega
    subst e
    clear hb hs
    go_wp2
    go_ret
    exact ⟨rfl, by rw [HB.out (by omega)]⟩
  ·have e : k = len := by omega
   subst e
   clear hb hs
   go_wp2
   go_ret
   exact ⟨rfl, rfl⟩
theorem full_any (g o len cap : Nat) (z : Nat → Int) (w : World) (hl : len ≤ maxLen) (hb : ∀ j, j < len → w.cell? ⟨g, o + j, none⟩ = some (.int .u8 (z j))) (hg : g < w.heap.size) :
  Calls Tryz.prog 41 #[.slice (some ⟨g, o, none⟩) len cap] w fun e w' => e = .returned (.slice (some ⟨w.heap.size, 0, none⟩) 32 32) ∧ w' = w.alloc (.cells (secL (fullF z len)).toArray 5) :=
 full_core (fun k => (secL (fullF z k)).toArray) g o len cap z w hl hb hg (mk32 z) (fun k => by simp [secL_length]) (fullF_set z) (fun h => by rw [fullF_big z len h])
theorem new_any (n : Nat) (w : World) (h1 : 1 ≤ n) (h2 : n ≤ 8192) :
  Calls Tryz.prog 5 #[.int .i64 n] w fun e w' => ∃ p S, e = .returned (.tuple #[.pointer (some ⟨p, 0, none⟩), .int .i64 0]) ∧
   DiskAt w' w.heap.size p S (.slice none 0 0) ⟨n, fun _ _ => 0, [], -1⟩ ∧ Only (fun _ => False) w w' :=
 (new_ok n w h1 h2).mono fun _ _ h => ⟨_, _, h.1, h.2.1, h.2.2.1⟩
end Go.Proofs.YtlcglapcmdpkfaaGreat
