/- The first character that is wanted: find. -/
import Derived.Test.YtbijiigobbjlcaaDoorLx11
namespace Go.Proofs.YtbijiigobbjlcaaDoor
open Go.RowKit
set_option linter.unusedSimpArgs false
set_option linter.unusedVariables false
def fndL (p : Nat → Bool) (a n : Nat) : List (Nat × Nat) → Nat
  | [] => n
  | (i, c) :: l => if p c = true then a + i else fndL p a n l
/-- The place of the first character that p wants, from a on, or the text's length. -/
def fnd (p : Nat → Bool) (s : ByteArray) (a : Nat) : Nat := fndL p a s.size (crs (s.extract a s.size) (s.extract a s.size).size 0)
set_option maxRecDepth 100000 in
set_option maxHeartbeats 1000000 in
theorem find_blank (s : ByteArray) (a : Nat) (ha : a ≤ s.size) (hs : s.size ≤ 1000000) (w : World) :
    Calls Tryd.prog 35 #[.string s, .int .i64 (a : Int), .func (.func 37) #[] #[]] w fun e w' => e = .returned (.int .i64 (fnd (fun c => blk c) s a : Nat)) ∧ Only (fun _ => False) w w' := by
  have HC : Hid (∀ (c : Nat) w1, Calls Tryd.prog 37 #[.int .i32 (c : Int)] w1 fun e w' => e = .returned (.bool (blk c)) ∧ w' = w1) := fun c w1 => blank_any c w1
  unfold fnd
  obtain ⟨S, hS⟩ : ∃ S, S = s.extract a s.size := ⟨_, rfl⟩
  have hsl : ∀ W : World, (Instr.slice 9 (.string s) (some (.int .i64 (a : Int))) none none).run Tryd.prog W = .ok (.string S) W := fun W => by
    rw [run_slice_string_l W 9 s Tryd.underlying9 _ _ (by omega) (by omega), hS]
    rfl
  have hsz : S.size = s.size - a := by rw [hS, ByteArray.size_extract]; omega
  rw [← hS]
  clear hS
  obtain ⟨Z, hZ⟩ : ∃ Z, Z = fndL (fun c => blk c) a s.size (crs S S.size 0) := ⟨_, rfl⟩
  have HZ : Hid (Z = fndL (fun c => blk c) a s.size (crs S S.size 0)) := hZ
  rw [← hZ]
  clear hZ
  go_enter Tryd.func35, Tryd.ntmps35
  go_wp2
  go_loopw [6] (fun r w' => ∃ (pos b : Nat), w' = w.iter S pos ∧ r = .int .i64 0 ∧ Hid (Z = fndL (fun c => blk c) a s.size (crs S b pos) ∧ S.size ≤ pos + b)) (fun _ w' => S.size - w'.iterPos w.heap.size)
  case atStart => exact ⟨0, S.size, rfl, rfl, HZ.out, by omega⟩
  case round =>
    obtain ⟨pos, b, rfl, rfl, HI⟩ := hrel
    clear HZ
    by_cases hp : pos < S.size
    · have hnx : ∀ ty, (Instr.next (.pointer (some ⟨w.heap.size, 0, none⟩)) true ty).run Tryd.prog (w.iter S pos) = _ := fun ty => run_next_any w S pos ty hp
      have hwd := wid_pos S pos hp
      obtain ⟨b', hb', hcr⟩ := crs_go hp HI.out.2
      have hdl := decode_le S pos
      obtain ⟨c, hc⟩ : ∃ c, c = (Utf8.decode S pos).1 := ⟨_, rfl⟩
      obtain ⟨wd, hw⟩ : ∃ c, c = (Utf8.decode S pos).2 := ⟨_, rfl⟩
      rw [← hc, ← hw] at hnx hcr
      rw [← hc] at hdl
      rw [← hw] at hwd
      have HZ2 : Hid (Z = fndL (fun c => blk c) a s.size ((pos, c) :: crs S b' (pos + wd)) ∧ S.size ≤ pos + wd + b') := ⟨by rw [HI.out.1, hcr], by have := HI.out.2; omega⟩
      clear HI hc hw hcr hb'
      have OI : Hid (Only (fun _ => False) w (w.iter S (pos + wd))) := (Only.refl _ w).iter S _
      have HC1 : Hid (Calls Tryd.prog 37 #[.int .i32 (c : Int)] (w.iter S (pos + wd)) fun e w' => e = .returned (.bool (blk c)) ∧ w' = w.iter S (pos + wd)) := HC.out _ _
      cases hin : (blk c) with
      | true =>
        rw [hin] at HC1
        have HE : Hid (Z = a + pos) := by rw [HZ2.out.1]; exact if_pos hin
        clear HZ2 hin HC
        go_wp2_with (go_at_call 37; refine (show Calls Tryd.prog 37 _ _ _ from HC1.out).mono ?_; rintro e wz ⟨rfl, rfl⟩)
        go_ret
        exact ⟨congrArg (fun z : Nat => Ending.returned (.int .i64 (z : Int))) (show a + pos = Z from HE.out.symm), OI.out⟩
      | false =>
        rw [hin] at HC1
        have HN : Hid (Z = fndL (fun c => blk c) a s.size (crs S b' (pos + wd)) ∧ S.size ≤ pos + wd + b') := ⟨by rw [HZ2.out.1]; exact if_neg (by show ¬ (blk c) = true; rw [hin]; simp), HZ2.out.2⟩
        clear HZ2 hin
        go_wp2_with (go_at_call 37; refine (show Calls Tryd.prog 37 _ _ _ from HC1.out).mono ?_; rintro e wz ⟨rfl, rfl⟩)
        go_roundw
        case rel => exact ⟨pos + wd, b', rfl, rfl, HN.out⟩
        case measure => simp; omega
    · have hnx : ∀ ty, (Instr.next (.pointer (some ⟨w.heap.size, 0, none⟩)) true ty).run Tryd.prog (w.iter S pos) = _ := fun ty => run_next_end w S pos ty hp
      have HE : Hid (Z = s.size) := by rw [HI.out.1, crs_end hp]; rfl
      have OI : Hid (Only (fun _ => False) w (w.iter S pos)) := (Only.refl _ w).iter S _
      clear HI HC
      go_wp2
      go_ret
      exact ⟨by rw [show Z = s.size from HE.out]; rfl, OI.out⟩
set_option maxRecDepth 100000 in
set_option maxHeartbeats 1000000 in
theorem find_notblank (s : ByteArray) (a : Nat) (ha : a ≤ s.size) (hs : s.size ≤ 1000000) (w : World) :
    Calls Tryd.prog 35 #[.string s, .int .i64 (a : Int), .func (.func 36) #[] #[]] w fun e w' => e = .returned (.int .i64 (fnd (fun c => !blk c) s a : Nat)) ∧ Only (fun _ => False) w w' := by
  have HC : Hid (∀ (c : Nat) w1, Calls Tryd.prog 36 #[.int .i32 (c : Int)] w1 fun e w' => e = .returned (.bool (!blk c)) ∧ w' = w1) := fun c w1 => notblank_any c w1
  unfold fnd
  obtain ⟨S, hS⟩ : ∃ S, S = s.extract a s.size := ⟨_, rfl⟩
  have hsl : ∀ W : World, (Instr.slice 9 (.string s) (some (.int .i64 (a : Int))) none none).run Tryd.prog W = .ok (.string S) W := fun W => by
    rw [run_slice_string_l W 9 s Tryd.underlying9 _ _ (by omega) (by omega), hS]
    rfl
  have hsz : S.size = s.size - a := by rw [hS, ByteArray.size_extract]; omega
  rw [← hS]
  clear hS
  obtain ⟨Z, hZ⟩ : ∃ Z, Z = fndL (fun c => !blk c) a s.size (crs S S.size 0) := ⟨_, rfl⟩
  have HZ : Hid (Z = fndL (fun c => !blk c) a s.size (crs S S.size 0)) := hZ
  rw [← hZ]
  clear hZ
  go_enter Tryd.func35, Tryd.ntmps35
  go_wp2
  go_loopw [6] (fun r w' => ∃ (pos b : Nat), w' = w.iter S pos ∧ r = .int .i64 0 ∧ Hid (Z = fndL (fun c => !blk c) a s.size (crs S b pos) ∧ S.size ≤ pos + b)) (fun _ w' => S.size - w'.iterPos w.heap.size)
  case atStart => exact ⟨0, S.size, rfl, rfl, HZ.out, by omega⟩
  case round =>
    obtain ⟨pos, b, rfl, rfl, HI⟩ := hrel
    clear HZ
    by_cases hp : pos < S.size
    · have hnx : ∀ ty, (Instr.next (.pointer (some ⟨w.heap.size, 0, none⟩)) true ty).run Tryd.prog (w.iter S pos) = _ := fun ty => run_next_any w S pos ty hp
      have hwd := wid_pos S pos hp
      obtain ⟨b', hb', hcr⟩ := crs_go hp HI.out.2
      have hdl := decode_le S pos
      obtain ⟨c, hc⟩ : ∃ c, c = (Utf8.decode S pos).1 := ⟨_, rfl⟩
      obtain ⟨wd, hw⟩ : ∃ c, c = (Utf8.decode S pos).2 := ⟨_, rfl⟩
      rw [← hc, ← hw] at hnx hcr
      rw [← hc] at hdl
      rw [← hw] at hwd
      have HZ2 : Hid (Z = fndL (fun c => !blk c) a s.size ((pos, c) :: crs S b' (pos + wd)) ∧ S.size ≤ pos + wd + b') := ⟨by rw [HI.out.1, hcr], by have := HI.out.2; omega⟩
      clear HI hc hw hcr hb'
      have OI : Hid (Only (fun _ => False) w (w.iter S (pos + wd))) := (Only.refl _ w).iter S _
      have HC1 : Hid (Calls Tryd.prog 36 #[.int .i32 (c : Int)] (w.iter S (pos + wd)) fun e w' => e = .returned (.bool (!blk c)) ∧ w' = w.iter S (pos + wd)) := HC.out _ _
      cases hin : (!blk c) with
      | true =>
        rw [hin] at HC1
        have HE : Hid (Z = a + pos) := by rw [HZ2.out.1]; exact if_pos hin
        clear HZ2 hin HC
        go_wp2_with (go_at_call 36; refine (show Calls Tryd.prog 36 _ _ _ from HC1.out).mono ?_; rintro e wz ⟨rfl, rfl⟩)
        go_ret
        exact ⟨congrArg (fun z : Nat => Ending.returned (.int .i64 (z : Int))) (show a + pos = Z from HE.out.symm), OI.out⟩
      | false =>
        rw [hin] at HC1
        have HN : Hid (Z = fndL (fun c => !blk c) a s.size (crs S b' (pos + wd)) ∧ S.size ≤ pos + wd + b') := ⟨by rw [HZ2.out.1]; exact if_neg (by show ¬ (!blk c) = true; rw [hin]; simp), HZ2.out.2⟩
        clear HZ2 hin
        go_wp2_with (go_at_call 36; refine (show Calls Tryd.prog 36 _ _ _ from HC1.out).mono ?_; rintro e wz ⟨rfl, rfl⟩)
        go_roundw
        case rel => exact ⟨pos + wd, b', rfl, rfl, HN.out⟩
        case measure => simp; omega
    · have hnx : ∀ ty, (Instr.next (.pointer (some ⟨w.heap.size, 0, none⟩)) true ty).run Tryd.prog (w.iter S pos) = _ := fun ty => run_next_end w S pos ty hp
      have HE : Hid (Z = s.size) := by rw [HI.out.1, crs_end hp]; rfl
      have OI : Hid (Only (fun _ => False) w (w.iter S pos)) := (Only.refl _ w).iter S _
      clear HI HC
      go_wp2
      go_ret
      exact ⟨by rw [show Z = s.size from HE.out]; rfl, OI.out⟩
set_option maxRecDepth 100000 in
set_option maxHeartbeats 1000000 in
theorem find_newline (s : ByteArray) (a : Nat) (ha : a ≤ s.size) (hs : s.size ≤ 1000000) (w : World) :
    Calls Tryd.prog 35 #[.string s, .int .i64 (a : Int), .func (.func 39) #[] #[]] w fun e w' => e = .returned (.int .i64 (fnd (fun c => decide (c = 10)) s a : Nat)) ∧ Only (fun _ => False) w w' := by
  have HC : Hid (∀ (c : Nat) w1, Calls Tryd.prog 39 #[.int .i32 (c : Int)] w1 fun e w' => e = .returned (.bool (decide (c = 10))) ∧ w' = w1) := fun c w1 => newline_any c w1
  unfold fnd
  obtain ⟨S, hS⟩ : ∃ S, S = s.extract a s.size := ⟨_, rfl⟩
  have hsl : ∀ W : World, (Instr.slice 9 (.string s) (some (.int .i64 (a : Int))) none none).run Tryd.prog W = .ok (.string S) W := fun W => by
    rw [run_slice_string_l W 9 s Tryd.underlying9 _ _ (by omega) (by omega), hS]
    rfl
  have hsz : S.size = s.size - a := by rw [hS, ByteArray.size_extract]; omega
  rw [← hS]
  clear hS
  obtain ⟨Z, hZ⟩ : ∃ Z, Z = fndL (fun c => decide (c = 10)) a s.size (crs S S.size 0) := ⟨_, rfl⟩
  have HZ : Hid (Z = fndL (fun c => decide (c = 10)) a s.size (crs S S.size 0)) := hZ
  rw [← hZ]
  clear hZ
  go_enter Tryd.func35, Tryd.ntmps35
  go_wp2
  go_loopw [6] (fun r w' => ∃ (pos b : Nat), w' = w.iter S pos ∧ r = .int .i64 0 ∧ Hid (Z = fndL (fun c => decide (c = 10)) a s.size (crs S b pos) ∧ S.size ≤ pos + b)) (fun _ w' => S.size - w'.iterPos w.heap.size)
  case atStart => exact ⟨0, S.size, rfl, rfl, HZ.out, by omega⟩
  case round =>
    obtain ⟨pos, b, rfl, rfl, HI⟩ := hrel
    clear HZ
    by_cases hp : pos < S.size
    · have hnx : ∀ ty, (Instr.next (.pointer (some ⟨w.heap.size, 0, none⟩)) true ty).run Tryd.prog (w.iter S pos) = _ := fun ty => run_next_any w S pos ty hp
      have hwd := wid_pos S pos hp
      obtain ⟨b', hb', hcr⟩ := crs_go hp HI.out.2
      have hdl := decode_le S pos
      obtain ⟨c, hc⟩ : ∃ c, c = (Utf8.decode S pos).1 := ⟨_, rfl⟩
      obtain ⟨wd, hw⟩ : ∃ c, c = (Utf8.decode S pos).2 := ⟨_, rfl⟩
      rw [← hc, ← hw] at hnx hcr
      rw [← hc] at hdl
      rw [← hw] at hwd
      have HZ2 : Hid (Z = fndL (fun c => decide (c = 10)) a s.size ((pos, c) :: crs S b' (pos + wd)) ∧ S.size ≤ pos + wd + b') := ⟨by rw [HI.out.1, hcr], by have := HI.out.2; omega⟩
      clear HI hc hw hcr hb'
      have OI : Hid (Only (fun _ => False) w (w.iter S (pos + wd))) := (Only.refl _ w).iter S _
      have HC1 : Hid (Calls Tryd.prog 39 #[.int .i32 (c : Int)] (w.iter S (pos + wd)) fun e w' => e = .returned (.bool (decide (c = 10))) ∧ w' = w.iter S (pos + wd)) := HC.out _ _
      cases hin : (decide (c = 10)) with
      | true =>
        rw [hin] at HC1
        have HE : Hid (Z = a + pos) := by rw [HZ2.out.1]; exact if_pos hin
        clear HZ2 hin HC
        go_wp2_with (go_at_call 39; refine (show Calls Tryd.prog 39 _ _ _ from HC1.out).mono ?_; rintro e wz ⟨rfl, rfl⟩)
        go_ret
        exact ⟨congrArg (fun z : Nat => Ending.returned (.int .i64 (z : Int))) (show a + pos = Z from HE.out.symm), OI.out⟩
      | false =>
        rw [hin] at HC1
        have HN : Hid (Z = fndL (fun c => decide (c = 10)) a s.size (crs S b' (pos + wd)) ∧ S.size ≤ pos + wd + b') := ⟨by rw [HZ2.out.1]; exact if_neg (by show ¬ (decide (c = 10)) = true; rw [hin]; simp), HZ2.out.2⟩
        clear HZ2 hin
        go_wp2_with (go_at_call 39; refine (show Calls Tryd.prog 39 _ _ _ from HC1.out).mono ?_; rintro e wz ⟨rfl, rfl⟩)
        go_roundw
        case rel => exact ⟨pos + wd, b', rfl, rfl, HN.out⟩
        case measure => simp; omega
    · have hnx : ∀ ty, (Instr.next (.pointer (some ⟨w.heap.size, 0, none⟩)) true ty).run Tryd.prog (w.iter S pos) = _ := fun ty => run_next_end w S pos ty hp
      have HE : Hid (Z = s.size) := by rw [HI.out.1, crs_end hp]; rfl
      have OI : Hid (Only (fun _ => False) w (w.iter S pos)) := (Only.refl _ w).iter S _
      clear HI HC
      go_wp2
      go_ret
      exact ⟨by rw [show Z = s.size from HE.out]; rfl, OI.out⟩
end Go.Proofs.YtbijiigobbjlcaaDoor
