/- The first character that is wanted: find. wordEnd, remarked, stray. begin, stray. stray. unescape. DERIVED: THE SHELF's CONTRACTS AT THIS DUMP, IN PLAIN WORDS (tools/lay-plain.mjs out of 'TrydShelf.lean', which tools/lay-shelf.mjs wrote): THE SAME DECLARATIONS UNDER THE SAME NAMES: 'import', 'namespace', 'open', 'def', 'theorem' AND NOTHING ELSE: no command of the shelf's: FOR A HAND-IN. Each laying: the table of numbers ('.._ren') and one theorem, a field a fact of the dump's own or the kernel's comparison; each contract: ONE APPLICATION. strings.Clone. readWord. What the writers of a strings.Builder leave: copyCheck, AppendRune, WriteRune, WriteString. -/
import Derived.Test.YtapehdolnljnoaaDoorGaa
import Derived.Shelf.Strings.Builder1
import Derived.Shelf.Strings.BuilderF
import Derived.Shelf.Strings.BuilderK
import Derived.Shelf.Strings.BuilderRune
import Derived.Shelf.LaysM
import Derived.Shelf.Strconv.Clone
import Derived.Test.YtapehdolnljnoaaDoorProg
namespace Go.Proofs.YtapehdolnljnoaaDoor
open Go.RowKit
set_option linter.unusedSimpArgs false
set_option linter.unusedVariables false
def fndL (p : Nat → Bool) (a n : Nat) : List (Nat × Nat) → Nat
  | [] => n
  | (i, c) :: l => if p c = true then a + i else fndL p a n l
/-- The place of the first character that p wants, from a on, or the text's length. -/
def fnd (p : Nat → Bool) (s : ByteArray) (a : Nat) : Nat := fndL p a s.size (crs (s.extract a s.size) (s.extract a s.size).size 0)
set_option maxRecDepth 100000 in
set_option maxHeartbeats 1000000 in
theorem find_blank (s : ByteArray) (a : Nat) (ha : a ≤ s.size) (hs : s.size ≤ 1000000) (w : World) :
    Calls Tryd.prog 61 #[.string s, .int .i64 (a : Int), .func (.func 63) #[] #[]] w fun e w' => e = .returned (.int .i64 (fnd (fun c => blk c) s a : Nat)) ∧ Only (fun _ => False) w w' := by
  have HC : Hid (∀ (c : Nat) w1, Calls Tryd.prog 63 #[.int .i32 (c : Int)] w1 fun e w' => e = .returned (.bool (blk c)) ∧ w' = w1) := fun c w1 => blank_any c w1
  unfold fnd
  obtain ⟨S, hS⟩ : ∃ S, S = s.extract a s.size := ⟨_, rfl⟩
  have hsl : ∀ W : World, (Instr.slice 9 (.string s) (some (.int .i64 (a : Int))) none none).run Tryd.prog W = .ok (.string S) W := fun W => by
    rw [run_slice_string_l W 9 s Tryd.underlying9 _ _ (by omega) (by omega), hS]
    rfl
  have hsz : S.size = s.size - a := by rw [hS, ByteArray.size_extract]; omega
  rw [← hS]
  clear hS
  obtain ⟨Z, hZ⟩ : ∃ Z, Z = fndL (fun c => blk c) a s.size (crs S S.size 0) := ⟨_, rfl⟩
  have HZ : Hid (Z = fndL (fun c => blk c) a s.size (crs S S.size 0)) := hZ
  rw [← hZ]
  clear hZ
  go_enter Tryd.func61, Tryd.ntmps61
  go_wp2
  go_loopw [6] (fun r w' => ∃ (pos b : Nat), w' = w.iter S pos ∧ r = .int .i64 0 ∧ Hid (Z = fndL (fun c => blk c) a s.size (crs S b pos) ∧ S.size ≤ pos + b)) (fun _ w' => S.size - w'.iterPos w.heap.size)
  case atStart => exact ⟨0, S.size, rfl, rfl, HZ.out, by omega⟩
  case round =>
    obtain ⟨pos, b, rfl, rfl, HI⟩ := hrel
    clear HZ
    by_cases hp : pos < S.size
    · have hnx : ∀ ty, (Instr.next (.pointer (some ⟨w.heap.size, 0, none⟩)) true ty).run Tryd.prog (w.iter S pos) = _ := fun ty => run_next_any w S pos ty hp
      have hwd := wid_pos S pos hp
      obtain ⟨b', hb', hcr⟩ := crs_go hp HI.out.2
      have hdl := decode_le S pos
      obtain ⟨c, hc⟩ : ∃ c, c = (Utf8.decode S pos).1 := ⟨_, rfl⟩
      obtain ⟨wd, hw⟩ : ∃ c, c = (Utf8.decode S pos).2 := ⟨_, rfl⟩
      rw [← hc, ← hw] at hnx hcr
      rw [← hc] at hdl
      rw [← hw] at hwd
      have HZ2 : Hid (Z = fndL (fun c => blk c) a s.size ((pos, c) :: crs S b' (pos + wd)) ∧ S.size ≤ pos + wd + b') := ⟨by rw [HI.out.1, hcr], by have := HI.out.2; omega⟩
      clear HI hc hw hcr hb'
      have OI : Hid (Only (fun _ => False) w (w.iter S (pos + wd))) := (Only.refl _ w).iter S _
      have HC1 : Hid (Calls Tryd.prog 63 #[.int .i32 (c : Int)] (w.iter S (pos + wd)) fun e w' => e = .returned (.bool (blk c)) ∧ w' = w.iter S (pos + wd)) := HC.out _ _
      cases hin : (blk c) with
      | true =>
        rw [hin] at HC1
        have HE : Hid (Z = a + pos) := by rw [HZ2.out.1]; exact if_pos hin
        clear HZ2 hin HC
        go_wp2_with (go_at_call 63; refine (show Calls Tryd.prog 63 _ _ _ from HC1.out).mono ?_; rintro e wz ⟨rfl, rfl⟩)
        go_ret
        exact ⟨congrArg (fun z : Nat => Ending.returned (.int .i64 (z : Int))) (show a + pos = Z from HE.out.symm), OI.out⟩
      | false =>
        rw [hin] at HC1
        have HN : Hid (Z = fndL (fun c => blk c) a s.size (crs S b' (pos + wd)) ∧ S.size ≤ pos + wd + b') := ⟨by rw [HZ2.out.1]; exact if_neg (by show ¬ (blk c) = true; rw [hin]; simp), HZ2.out.2⟩
        clear HZ2 hin
        go_wp2_with (go_at_call 63; refine (show Calls Tryd.prog 63 _ _ _ from HC1.out).mono ?_; rintro e wz ⟨rfl, rfl⟩)
        go_roundw
        case rel => exact ⟨pos + wd, b', rfl, rfl, HN.out⟩
        case measure => simp; omega
    · have hnx : ∀ ty, (Instr.next (.pointer (some ⟨w.heap.size, 0, none⟩)) true ty).run Tryd.prog (w.iter S pos) = _ := fun ty => run_next_end w S pos ty hp
      have HE : Hid (Z = s.size) := by rw [HI.out.1, crs_end hp]; rfl
      have OI : Hid (Only (fun _ => False) w (w.iter S pos)) := (Only.refl _ w).iter S _
      clear HI HC
      go_wp2
      go_ret
      exact ⟨by rw [show Z = s.size from HE.out]; rfl, OI.out⟩
set_option maxRecDepth 100000 in
set_option maxHeartbeats 1000000 in
theorem find_notblank (s : ByteArray) (a : Nat) (ha : a ≤ s.size) (hs : s.size ≤ 1000000) (w : World) :
    Calls Tryd.prog 61 #[.string s, .int .i64 (a : Int), .func (.func 62) #[] #[]] w fun e w' => e = .returned (.int .i64 (fnd (fun c => !blk c) s a : Nat)) ∧ Only (fun _ => False) w w' := by
  have HC : Hid (∀ (c : Nat) w1, Calls Tryd.prog 62 #[.int .i32 (c : Int)] w1 fun e w' => e = .returned (.bool (!blk c)) ∧ w' = w1) := fun c w1 => notblank_any c w1
  unfold fnd
  obtain ⟨S, hS⟩ : ∃ S, S = s.extract a s.size := ⟨_, rfl⟩
  have hsl : ∀ W : World, (Instr.slice 9 (.string s) (some (.int .i64 (a : Int))) none none).run Tryd.prog W = .ok (.string S) W := fun W => by
    rw [run_slice_string_l W 9 s Tryd.underlying9 _ _ (by omega) (by omega), hS]
    rfl
  have hsz : S.size = s.size - a := by rw [hS, ByteArray.size_extract]; omega
  rw [← hS]
  clear hS
  obtain ⟨Z, hZ⟩ : ∃ Z, Z = fndL (fun c => !blk c) a s.size (crs S S.size 0) := ⟨_, rfl⟩
  have HZ : Hid (Z = fndL (fun c => !blk c) a s.size (crs S S.size 0)) := hZ
  rw [← hZ]
  clear hZ
  go_enter Tryd.func61, Tryd.ntmps61
  go_wp2
  go_loopw [6] (fun r w' => ∃ (pos b : Nat), w' = w.iter S pos ∧ r = .int .i64 0 ∧ Hid (Z = fndL (fun c => !blk c) a s.size (crs S b pos) ∧ S.size ≤ pos + b)) (fun _ w' => S.size - w'.iterPos w.heap.size)
  case atStart => exact ⟨0, S.size, rfl, rfl, HZ.out, by omega⟩
  case round =>
    obtain ⟨pos, b, rfl, rfl, HI⟩ := hrel
    clear HZ
    by_cases hp : pos < S.size
    · have hnx : ∀ ty, (Instr.next (.pointer (some ⟨w.heap.size, 0, none⟩)) true ty).run Tryd.prog (w.iter S pos) = _ := fun ty => run_next_any w S pos ty hp
      have hwd := wid_pos S pos hp
      obtain ⟨b', hb', hcr⟩ := crs_go hp HI.out.2
      have hdl := decode_le S pos
      obtain ⟨c, hc⟩ : ∃ c, c = (Utf8.decode S pos).1 := ⟨_, rfl⟩
      obtain ⟨wd, hw⟩ : ∃ c, c = (Utf8.decode S pos).2 := ⟨_, rfl⟩
      rw [← hc, ← hw] at hnx hcr
      rw [← hc] at hdl
      rw [← hw] at hwd
      have HZ2 : Hid (Z = fndL (fun c => !blk c) a s.size ((pos, c) :: crs S b' (pos + wd)) ∧ S.size ≤ pos + wd + b') := ⟨by rw [HI.out.1, hcr], by have := HI.out.2; omega⟩
      clear HI hc hw hcr hb'
      have OI : Hid (Only (fun _ => False) w (w.iter S (pos + wd))) := (Only.refl _ w).iter S _
      have HC1 : Hid (Calls Tryd.prog 62 #[.int .i32 (c : Int)] (w.iter S (pos + wd)) fun e w' => e = .returned (.bool (!blk c)) ∧ w' = w.iter S (pos + wd)) := HC.out _ _
      cases hin : (!blk c) with
      | true =>
        rw [hin] at HC1
        have HE : Hid (Z = a + pos) := by rw [HZ2.out.1]; exact if_pos hin
        clear HZ2 hin HC
        go_wp2_with (go_at_call 62; refine (show Calls Tryd.prog 62 _ _ _ from HC1.out).mono ?_; rintro e wz ⟨rfl, rfl⟩)
        go_ret
        exact ⟨congrArg (fun z : Nat => Ending.returned (.int .i64 (z : Int))) (show a + pos = Z from HE.out.symm), OI.out⟩
      | false =>
        rw [hin] at HC1
        have HN : Hid (Z = fndL (fun c => !blk c) a s.size (crs S b' (pos + wd)) ∧ S.size ≤ pos + wd + b') := ⟨by rw [HZ2.out.1]; exact if_neg (by show ¬ (!blk c) = true; rw [hin]; simp), HZ2.out.2⟩
        clear HZ2 hin
        go_wp2_with (go_at_call 62; refine (show Calls Tryd.prog 62 _ _ _ from HC1.out).mono ?_; rintro e wz ⟨rfl, rfl⟩)
        go_roundw
        case rel => exact ⟨pos + wd, b', rfl, rfl, HN.out⟩
        case measure => simp; omega
    · have hnx : ∀ ty, (Instr.next (.pointer (some ⟨w.heap.size, 0, none⟩)) true ty).run Tryd.prog (w.iter S pos) = _ := fun ty => run_next_end w S pos ty hp
      have HE : Hid (Z = s.size) := by rw [HI.out.1, crs_end hp]; rfl
      have OI : Hid (Only (fun _ => False) w (w.iter S pos)) := (Only.refl _ w).iter S _
      clear HI HC
      go_wp2
      go_ret
      exact ⟨by rw [show Z = s.size from HE.out]; rfl, OI.out⟩
set_option maxRecDepth 100000 in
set_option maxHeartbeats 1000000 in
theorem find_newline (s : ByteArray) (a : Nat) (ha : a ≤ s.size) (hs : s.size ≤ 1000000) (w : World) :
    Calls Tryd.prog 61 #[.string s, .int .i64 (a : Int), .func (.func 65) #[] #[]] w fun e w' => e = .returned (.int .i64 (fnd (fun c => decide (c = 10)) s a : Nat)) ∧ Only (fun _ => False) w w' := by
  have HC : Hid (∀ (c : Nat) w1, Calls Tryd.prog 65 #[.int .i32 (c : Int)] w1 fun e w' => e = .returned (.bool (decide (c = 10))) ∧ w' = w1) := fun c w1 => newline_any c w1
  unfold fnd
  obtain ⟨S, hS⟩ : ∃ S, S = s.extract a s.size := ⟨_, rfl⟩
  have hsl : ∀ W : World, (Instr.slice 9 (.string s) (some (.int .i64 (a : Int))) none none).run Tryd.prog W = .ok (.string S) W := fun W => by
    rw [run_slice_string_l W 9 s Tryd.underlying9 _ _ (by omega) (by omega), hS]
    rfl
  have hsz : S.size = s.size - a := by rw [hS, ByteArray.size_extract]; omega
  rw [← hS]
  clear hS
  obtain ⟨Z, hZ⟩ : ∃ Z, Z = fndL (fun c => decide (c = 10)) a s.size (crs S S.size 0) := ⟨_, rfl⟩
  have HZ : Hid (Z = fndL (fun c => decide (c = 10)) a s.size (crs S S.size 0)) := hZ
  rw [← hZ]
  clear hZ
  go_enter Tryd.func61, Tryd.ntmps61
  go_wp2
  go_loopw [6] (fun r w' => ∃ (pos b : Nat), w' = w.iter S pos ∧ r = .int .i64 0 ∧ Hid (Z = fndL (fun c => decide (c = 10)) a s.size (crs S b pos) ∧ S.size ≤ pos + b)) (fun _ w' => S.size - w'.iterPos w.heap.size)
  case atStart => exact ⟨0, S.size, rfl, rfl, HZ.out, by omega⟩
  case round =>
    obtain ⟨pos, b, rfl, rfl, HI⟩ := hrel
    clear HZ
    by_cases hp : pos < S.size
    · have hnx : ∀ ty, (Instr.next (.pointer (some ⟨w.heap.size, 0, none⟩)) true ty).run Tryd.prog (w.iter S pos) = _ := fun ty => run_next_any w S pos ty hp
      have hwd := wid_pos S pos hp
      obtain ⟨b', hb', hcr⟩ := crs_go hp HI.out.2
      have hdl := decode_le S pos
      obtain ⟨c, hc⟩ : ∃ c, c = (Utf8.decode S pos).1 := ⟨_, rfl⟩
      obtain ⟨wd, hw⟩ : ∃ c, c = (Utf8.decode S pos).2 := ⟨_, rfl⟩
      rw [← hc, ← hw] at hnx hcr
      rw [← hc] at hdl
      rw [← hw] at hwd
      have HZ2 : Hid (Z = fndL (fun c => decide (c = 10)) a s.size ((pos, c) :: crs S b' (pos + wd)) ∧ S.size ≤ pos + wd + b') := ⟨by rw [HI.out.1, hcr], by have := HI.out.2; omega⟩
      clear HI hc hw hcr hb'
      have OI : Hid (Only (fun _ => False) w (w.iter S (pos + wd))) := (Only.refl _ w).iter S _
      have HC1 : Hid (Calls Tryd.prog 65 #[.int .i32 (c : Int)] (w.iter S (pos + wd)) fun e w' => e = .returned (.bool (decide (c = 10))) ∧ w' = w.iter S (pos + wd)) := HC.out _ _
      cases hin : (decide (c = 10)) with
      | true =>
        rw [hin] at HC1
        have HE : Hid (Z = a + pos) := by rw [HZ2.out.1]; exact if_pos hin
        clear HZ2 hin HC
        go_wp2_with (go_at_call 65; refine (show Calls Tryd.prog 65 _ _ _ from HC1.out).mono ?_; rintro e wz ⟨rfl, rfl⟩)
        go_ret
        exact ⟨congrArg (fun z : Nat => Ending.returned (.int .i64 (z : Int))) (show a + pos = Z from HE.out.symm), OI.out⟩
      | false =>
        rw [hin] at HC1
        have HN : Hid (Z = fndL (fun c => decide (c = 10)) a s.size (crs S b' (pos + wd)) ∧ S.size ≤ pos + wd + b') := ⟨by rw [HZ2.out.1]; exact if_neg (by show ¬ (decide (c = 10)) = true; rw [hin]; simp), HZ2.out.2⟩
        clear HZ2 hin
        go_wp2_with (go_at_call 65; refine (show Calls Tryd.prog 65 _ _ _ from HC1.out).mono ?_; rintro e wz ⟨rfl, rfl⟩)
        go_roundw
        case rel => exact ⟨pos + wd, b', rfl, rfl, HN.out⟩
        case measure => simp; omega
    · have hnx : ∀ ty, (Instr.next (.pointer (some ⟨w.heap.size, 0, none⟩)) true ty).run Tryd.prog (w.iter S pos) = _ := fun ty => run_next_end w S pos ty hp
      have HE : Hid (Z = s.size) := by rw [HI.out.1, crs_end hp]; rfl
      have OI : Hid (Only (fun _ => False) w (w.iter S pos)) := (Only.refl _ w).iter S _
      clear HI HC
      go_wp2
      go_ret
      exact ⟨by rw [show Z = s.size from HE.out]; rfl, OI.out⟩
end Go.Proofs.YtapehdolnljnoaaDoor
namespace Go.Proofs.YtapehdolnljnoaaDoor
open Go.RowKit
set_option linter.unusedSimpArgs false
set_option linter.unusedVariables false
theorem fndL_le (p : Nat → Bool) (a n : Nat) (S : ByteArray) (h : a + S.size ≤ n) : ∀ (b pos : Nat), fndL p a n (crs S b pos) ≤ n := by
  intro b
  induction b with
  | zero => intro pos; exact Nat.le_refl _
  | succ b ih =>
    intro pos
    by_cases hp : pos < S.size
    · rw [show crs S (b + 1) pos = (pos, (Utf8.decode S pos).1) :: crs S b (pos + (Utf8.decode S pos).2) by simp [crs, hp]]
      unfold fndL
      split
      · omega
      · exact ih _
    · rw [crs_end hp]; exact Nat.le_refl _
theorem fndL_ge (p : Nat → Bool) (a n : Nat) (S : ByteArray) (h : a + S.size ≤ n) : ∀ (b pos : Nat), pos ≤ S.size → a + pos ≤ fndL p a n (crs S b pos) := by
  intro b
  induction b with
  | zero => intro pos hq; show a + pos ≤ n; omega
  | succ b ih =>
    intro pos hq
    by_cases hp : pos < S.size
    · rw [show crs S (b + 1) pos = (pos, (Utf8.decode S pos).1) :: crs S b (pos + (Utf8.decode S pos).2) by simp [crs, hp]]
      unfold fndL
      split
      · exact Nat.le_refl _
      · by_cases hr : pos + (Utf8.decode S pos).2 ≤ S.size
        · have := ih (pos + (Utf8.decode S pos).2) hr
          omega
        · rw [crs_end (by omega)]
          show a + pos ≤ n
          omega
    · rw [crs_end hp]
      show a + pos ≤ n
      omega
theorem fnd_le (p : Nat → Bool) (s : ByteArray) {a : Nat} (ha : a ≤ s.size) : a ≤ fnd p s a ∧ fnd p s a ≤ s.size := by
  have hz : (s.extract a s.size).size = s.size - a := by rw [ByteArray.size_extract]; omega
  exact ⟨fndL_ge p a s.size _ (by omega) _ 0 (by omega), fndL_le p a s.size _ (by omega) _ 0⟩
set_option maxRecDepth 100000 in
theorem wordEnd_any (s : ByteArray) (a : Nat) (ha : a ≤ s.size) (hs : s.size ≤ 1000000) (w : World) : Calls Tryd.prog 69 #[.string s, .int .i64 (a : Int)] w fun e w' => e = .returned (.int .i64 (fnd (fun c => blk c) s a : Nat)) ∧ Only (fun _ => False) w w' := by
  have HC : Hid (Calls Tryd.prog 61 #[.string s, .int .i64 (a : Int), .func (.func 63) #[] #[]] w fun e w' => e = .returned (.int .i64 (fnd (fun c => blk c) s a : Nat)) ∧ Only (fun _ => False) w w') := find_blank s a ha hs w
  obtain ⟨z, hz⟩ : ∃ z, z = fnd (fun c => blk c) s a := ⟨_, rfl⟩
  rw [← hz] at HC ⊢
  clear hz
  go_enter Tryd.func69, Tryd.ntmps69
  go_wp2_with fail
  refine (show Calls Tryd.prog 61 _ _ _ from HC.out).mono ?_
  rintro e wz ⟨rfl, o⟩
  have O : Hid (Only (fun _ => False) w wz) := o
  clear HC o
  go_wp2
  go_ret
  exact ⟨rfl, O.out⟩
def exB : ByteArray := ⟨#[33]⟩
/-- Is the word at a the remark's? -/
def rmk (s : ByteArray) (a : Nat) : Bool := preB (s.extract a s.size) exB && decide (fnd (fun c => blk c) s a = a + 1)
set_option maxRecDepth 100000 in
set_option maxHeartbeats 1000000 in
theorem remarked_any (s : ByteArray) (a : Nat) (ha : a ≤ s.size) (hs : s.size ≤ 1000000) (w : World) : Calls Tryd.prog 64 #[.string s, .int .i64 (a : Int)] w fun e w' => e = .returned (.bool (rmk s a)) ∧ Only (fun _ => False) w w' := by
  obtain ⟨S, hS⟩ : ∃ S, S = s.extract a s.size := ⟨_, rfl⟩
  have hsl : ∀ W : World, (Instr.slice 9 (.string s) (some (.int .i64 (a : Int))) none none).run Tryd.prog W = .ok (.string S) W := fun W => by
    rw [run_slice_string_l W 9 s Tryd.underlying9 _ _ (by omega) (by omega), hS]
    rfl
  have HP : Hid (∀ w1, Calls Tryd.prog 60 #[.string S, .string exB] w1 fun e w' => e = .returned (.bool (preB S exB)) ∧ w' = w1) := fun w1 => hasprefix_any S exB w1
  have HW : Hid (∀ w1, Calls Tryd.prog 69 #[.string s, .int .i64 (a : Int)] w1 fun e w' => e = .returned (.int .i64 (fnd (fun c => blk c) s a : Nat)) ∧ Only (fun _ => False) w1 w') := fun w1 => wordEnd_any s a ha hs w1
  unfold rmk
  rw [← hS]
  obtain ⟨z, hz⟩ : ∃ z, z = fnd (fun c => blk c) s a := ⟨_, rfl⟩
  obtain ⟨b, hb⟩ : ∃ b, b = preB S exB := ⟨_, rfl⟩
  rw [← hz] at HW ⊢
  rw [← hb] at HP ⊢
  clear hz hb hS
  cases b with
  | false =>
    go_enter Tryd.func64, Tryd.ntmps64
    go_wp2_with fail
    refine (show Calls Tryd.prog 60 _ _ _ from HP.out _).mono ?_
    rintro e wz ⟨rfl, rfl⟩
    clear HP HW
    go_wp2
    go_ret
    exact ⟨rfl, Only.refl _ _⟩
  | true =>
    have e1 : decide (z = a + 1) = ((z : Int) == (a : Int) + 1) := by
      by_cases g : z = a + 1
      · subst g; simp
      · have : ¬ (z : Int) = (a : Int) + 1 := by omega
        simp [g, this]
    rw [Bool.true_and, e1]
    clear e1
    go_enter Tryd.func64, Tryd.ntmps64
    go_wp2_with fail
    refine (show Calls Tryd.prog 60 _ _ _ from HP.out _).mono ?_
    rintro e wz ⟨rfl, rfl⟩
    clear HP
    go_wp2_with fail
    refine (show Calls Tryd.prog 69 _ _ _ from HW.out _).mono ?_
    rintro e wy ⟨rfl, o⟩
    have O : Hid (Only (fun _ => False) wz wy) := o
    clear HW o
    go_wp2
    go_ret
    exact ⟨rfl, O.out⟩
end Go.Proofs.YtapehdolnljnoaaDoor
namespace Go.Proofs.YtapehdolnljnoaaDoor
open Go.RowKit
set_option linter.unusedSimpArgs false
set_option linter.unusedVariables false
/-- Where the next token begins. -/
def bgn (s : ByteArray) : Nat → Nat → Nat
  | 0, a => a
  | f + 1, a => if rmk s (fnd (fun c => !blk c) s a) = true then bgn s f (fnd (fun c => decide (c = 10)) s (fnd (fun c => !blk c) s a)) else fnd (fun c => !blk c) s a
theorem pre_get {S p : ByteArray} {b : UInt8} (hp : p = ⟨#[b]⟩) (h : preB S p = true) : ∃ hs : 0 < S.size, S[0]'hs = b := by
  subst hp
  unfold preB at h
  have h1 : (ByteArray.mk #[b]).size = 1 := rfl
  have h2 : (ByteArray.mk #[b]).toList = [b] := by rw [ByteArray.toList_eq]
  rw [h1, h2] at h
  simp only [Bool.and_eq_true, decide_eq_true_eq, beq_iff_eq] at h
  have hs : 0 < S.size := by omega
  refine ⟨hs, ?_⟩
  have h3 := h.2
  rw [ByteArray.toList_eq, ByteArray.data_extract] at h3
  have h4 : S.data.size = S.size := rfl
  have : (S.data.extract 0 1).toList = [S.data[0]'(by omega)] := by
    apply List.ext_getElem
    · simp; omega
    · intro i h1 h2
      have : i = 0 := by simp at h2; omega
      subst this
      simp
  rw [this] at h3
  have h5 := List.head_eq_of_cons_eq h3
  exact h5
theorem rmk_go {s : ByteArray} {a : Nat} (ha : a ≤ s.size) (h : rmk s a = true) : a < fnd (fun c => decide (c = 10)) s a := by
  unfold rmk at h
  simp only [Bool.and_eq_true] at h
  obtain ⟨hs, hb⟩ := pre_get (b := 33) rfl h.1
  have hz : (s.extract a s.size).size = s.size - a := by rw [ByteArray.size_extract]; omega
  unfold fnd
  generalize s.extract a s.size = S at *
  obtain ⟨b', hb', hc⟩ := crs_go (s := S) (b := S.size) (pos := 0) hs (by omega)
  have hd := decode_ascii S 0 hs (by rw [hb]; decide)
  rw [hb] at hd
  rw [hc, hd]
  unfold fndL
  rw [if_neg (by decide)]
  have := fndL_ge (fun c => decide (c = 10)) a s.size S (by omega) b' (0 + 1) (by omega)
  show a < fndL (fun c => decide (c = 10)) a s.size (crs S b' (0 + 1))
  omega
set_option maxRecDepth 100000 in
set_option maxHeartbeats 1000000 in
theorem begin_any (s : ByteArray) (hs : s.size ≤ 1000000) (a f : Nat) (ha : a ≤ s.size) (hf : s.size - a < f) (w : World) : Calls Tryd.prog 48 #[.string s, .int .i64 (a : Int)] w fun e w' => e = .returned (.int .i64 (bgn s f a : Nat)) ∧ Only (fun _ => False) w w' := by
  have H1 : Hid (∀ a w, a ≤ s.size → Calls Tryd.prog 61 #[.string s, .int .i64 (a : Nat), .func (.func 62) #[] #[]] w fun e w' => e = .returned (.int .i64 (fnd (fun c => !blk c) s a : Nat)) ∧ Only (fun _ => False) w w') := fun a w ha => find_notblank s a ha hs w
  have H2 : Hid (∀ a w, a ≤ s.size → Calls Tryd.prog 61 #[.string s, .int .i64 (a : Nat), .func (.func 65) #[] #[]] w fun e w' => e = .returned (.int .i64 (fnd (fun c => decide (c = 10)) s a : Nat)) ∧ Only (fun _ => False) w w') := fun a w ha => find_newline s a ha hs w
  have H3 : Hid (∀ a w, a ≤ s.size → Calls Tryd.prog 64 #[.string s, .int .i64 (a : Nat)] w fun e w' => e = .returned (.bool (rmk s a)) ∧ Only (fun _ => False) w w') := fun a w ha => remarked_any s a ha hs w
  obtain ⟨Z, hZ⟩ : ∃ Z, Z = bgn s f a := ⟨_, rfl⟩
  have HZ : Hid (Z = bgn s f a ∧ s.size - a < f ∧ Only (fun _ => False) w w) := ⟨hZ, hf, Only.refl _ _⟩
  rw [← hZ]
  clear hZ hf
  go_enter Tryd.func48, Tryd.ntmps48
  go_wp2
  go_loopw [1] (fun x w' => ∃ (a f : Nat), x = .int .i64 (a : Nat) ∧ a ≤ s.size ∧ Hid (Z = bgn s f a ∧ s.size - a < f ∧ Only (fun _ => False) w w')) (fun x _ => s.size + 1 - uOf x)
  case atStart => exact ⟨a, f, rfl, ha, HZ.out⟩
  case round =>
    clear HZ ha
    obtain ⟨a, f, rfl, ha, HI⟩ := hrel
    obtain ⟨g, rfl⟩ : ∃ g, f = g + 1 := ⟨f - 1, by have := HI.out.2.1; omega⟩
    have C1 := H1.out a wr ha
    have l1 := fnd_le (fun c => !blk c) s ha
    have HB : Hid (Z = if rmk s (fnd (fun c => !blk c) s a) = true then bgn s g (fnd (fun c => decide (c = 10)) s (fnd (fun c => !blk c) s a)) else fnd (fun c => !blk c) s a) := HI.out.1
    obtain ⟨a1, ha1⟩ : ∃ a1, a1 = fnd (fun c => !blk c) s a := ⟨_, rfl⟩
    rw [← ha1] at C1 l1 HB
    clear ha1
    have HC1 : Hid (Calls Tryd.prog 61 _ _ _) := C1
    clear C1
    go_wp2_with fail
    refine (show Calls Tryd.prog 61 _ _ _ from HC1.out).mono ?_
    rintro e w1 ⟨rfl, o1⟩
    have O1 : Hid (Only (fun _ => False) w w1) := HI.out.2.2.trans o1 (fun _ _ g => g)
    have HG : Hid (s.size - a < g + 1) := HI.out.2.1
    have C2 := H3.out a1 w1 l1.2
    have HR : Hid (rmk s a1 = true → a1 < fnd (fun c => decide (c = 10)) s a1) := fun h => rmk_go l1.2 h
    clear HI HC1 o1
    cases hr : rmk s a1 with
    | false =>
      rw [hr] at C2
      have HE : Hid (Z = a1) := by rw [HB.out]; exact if_neg (by rw [hr]; simp)
      have HC2 : Hid (Calls Tryd.prog 64 _ _ _) := C2
      clear C2 HR HB hr
      go_wp2_with fail
      refine (show Calls Tryd.prog 64 _ _ _ from HC2.out).mono ?_
      rintro e w2 ⟨rfl, o2⟩
      have O2 : Hid (Only (fun _ => False) w w2) := O1.out.trans o2 (fun _ _ g => g)
      clear HC2 o2
      go_wp2
      go_ret
      exact ⟨by rw [show Z = a1 from HE.out]; rfl, O2.out⟩
    | true =>
      rw [hr] at C2
      have hlt := HR.out hr
      have l2 := fnd_le (fun c => decide (c = 10)) s l1.2
      have HE : Hid (Z = bgn s g (fnd (fun c => decide (c = 10)) s a1)) := by rw [HB.out]; exact if_pos hr
      have C3 := fun w => H2.out a1 w l1.2
      obtain ⟨a2, ha2⟩ : ∃ a2, a2 = fnd (fun c => decide (c = 10)) s a1 := ⟨_, rfl⟩
      rw [← ha2] at C3 hlt l2 HE
      have HC2 : Hid (Calls Tryd.prog 64 _ _ _) := C2
      have HC3 : Hid (∀ w, Calls Tryd.prog 61 _ _ _) := C3
      clear C2 C3 HR HB hr ha2
      go_wp2_with fail
      refine (show Calls Tryd.prog 64 _ _ _ from HC2.out).mono ?_
      rintro e w2 ⟨rfl, o2⟩
      have O2 : Hid (Only (fun _ => False) w w2) := O1.out.trans o2 (fun _ _ g => g)
      clear HC2 o2
      go_wp2_with fail
      refine (show Calls Tryd.prog 61 _ _ _ from HC3.out _).mono ?_
      rintro e w3 ⟨rfl, o3⟩
      have O3 : Hid (Only (fun _ => False) w w3) := O2.out.trans o3 (fun _ _ g => g)
      clear HC3 o3
      go_wp2
      go_roundw
      case rel => exact ⟨a2, g, rfl, l2.2, HE.out, by have : s.size - a < g + 1 := HG.out; omega, O3.out⟩
      case measure => simp only [uOf]; omega
end Go.Proofs.YtapehdolnljnoaaDoor
namespace Go.Proofs.YtapehdolnljnoaaDoor
open Go.RowKit
set_option linter.unusedSimpArgs false
set_option linter.unusedVariables false
def rpB : ByteArray := ⟨#[239, 191, 189]⟩
def stL (s : ByteArray) : List (Nat × Nat) → Nat
  | [] => s.size
  | (i, c) :: l => if c = 65533 ∧ preB (s.extract i s.size) rpB = false then i else stL s l
/-- The place of the first byte that belongs to no character, or the length. -/
def stR (s : ByteArray) : Nat := stL s (crs s s.size 0)
set_option maxRecDepth 100000 in
set_option maxHeartbeats 1000000 in
theorem stray_any (s : ByteArray) (hs : s.size ≤ 1000000000000) (w : World) : Calls Tryd.prog 47 #[.string s] w fun e w' => e = .returned (.int .i64 (stR s : Nat)) ∧ Only (fun _ => False) w w' := by
  have HP : Hid (∀ S w1, Calls Tryd.prog 60 #[.string S, .string rpB] w1 fun e w' => e = .returned (.bool (preB S rpB)) ∧ w' = w1) := fun S w1 => hasprefix_any S rpB w1
  obtain ⟨Z, hZ⟩ : ∃ Z, Z = stR s := ⟨_, rfl⟩
  have HZ : Hid (Z = stL s (crs s s.size 0)) := hZ
  rw [← hZ]
  clear hZ
  go_enter Tryd.func47, Tryd.ntmps47
  go_wp2
  go_loopw [2] (fun r w' => ∃ (pos b : Nat), w' = w.iter s pos ∧ r = .int .i64 0 ∧ Hid (Z = stL s (crs s b pos) ∧ s.size ≤ pos + b)) (fun _ w' => s.size - w'.iterPos w.heap.size)
  case atStart => exact ⟨0, s.size, rfl, rfl, HZ.out, by omega⟩
  case round =>
    obtain ⟨pos, b, rfl, rfl, HI⟩ := hrel
    clear HZ
    by_cases hp : pos < s.size
    · have hnx : ∀ ty, (Instr.next (.pointer (some ⟨w.heap.size, 0, none⟩)) true ty).run Tryd.prog (w.iter s pos) = _ := fun ty => run_next_any w s pos ty hp
      have hwd := wid_pos s pos hp
      obtain ⟨b', hb', hcr⟩ := crs_go hp HI.out.2
      have hdl := decode_le s pos
      obtain ⟨c, hc⟩ : ∃ c, c = (Utf8.decode s pos).1 := ⟨_, rfl⟩
      obtain ⟨wd, hw⟩ : ∃ c, c = (Utf8.decode s pos).2 := ⟨_, rfl⟩
      rw [← hc, ← hw] at hnx hcr
      rw [← hc] at hdl
      rw [← hw] at hwd
      have HZ2 : Hid (Z = stL s ((pos, c) :: crs s b' (pos + wd)) ∧ s.size ≤ pos + wd + b') := ⟨by rw [HI.out.1, hcr], by have := HI.out.2; omega⟩
      clear HI hc hw hcr hb'
      have OI : Hid (Only (fun _ => False) w (w.iter s (pos + wd))) := (Only.refl _ w).iter s _
      by_cases h3 : c = 65533
      · obtain ⟨S, hS⟩ : ∃ S, S = s.extract pos s.size := ⟨_, rfl⟩
        have hsl : ∀ W : World, (Instr.slice 9 (.string s) (some (.int .i64 (pos : Int))) none none).run Tryd.prog W = .ok (.string S) W := fun W => by
          rw [run_slice_string_l W 9 s Tryd.underlying9 _ _ (by omega) (by omega), hS]
          rfl
        have HC1 := HP.out S (w.iter s (pos + wd))
        cases hin : preB S rpB with
        | false =>
          rw [hin] at HC1
          have HE : Hid (Z = pos) := by rw [HZ2.out.1]; exact if_pos ⟨h3, by rw [← hS]; exact hin⟩
          have HC2 : Hid (Calls Tryd.prog 60 _ _ _) := HC1
          subst h3
          clear HZ2 hin HP HC1 hS
          go_wp2_with fail
          refine (show Calls Tryd.prog 60 _ _ _ from HC2.out).mono ?_
          rintro e wz ⟨rfl, rfl⟩
          clear HC2
          go_wp2
          go_ret
          exact ⟨by rw [show Z = pos from HE.out]; rfl, OI.out⟩
        | true =>
          rw [hin] at HC1
          have HN : Hid (Z = stL s (crs s b' (pos + wd)) ∧ s.size ≤ pos + wd + b') := ⟨by rw [HZ2.out.1]; exact if_neg (fun g => by rw [← hS, hin] at g; exact absurd g.2 (by simp)), HZ2.out.2⟩
          have HC2 : Hid (Calls Tryd.prog 60 _ _ _) := HC1
          subst h3
          clear HZ2 hin HC1 hS
          go_wp2_with fail
          refine (show Calls Tryd.prog 60 _ _ _ from HC2.out).mono ?_
          rintro e wz ⟨rfl, rfl⟩
          clear HC2
          go_wp2
          go_roundw
          case rel => exact ⟨pos + wd, b', rfl, rfl, HN.out⟩
          case measure => simp; omega
      · have i3 : ¬ (c : Int) = 65533 := by omega
        have HN : Hid (Z = stL s (crs s b' (pos + wd)) ∧ s.size ≤ pos + wd + b') := ⟨by rw [HZ2.out.1]; exact if_neg (fun g => h3 g.1), HZ2.out.2⟩
        clear HZ2
        go_wp2
        go_roundw
        case rel => exact ⟨pos + wd, b', rfl, rfl, HN.out⟩
        case measure => simp; omega
    · have hnx : ∀ ty, (Instr.next (.pointer (some ⟨w.heap.size, 0, none⟩)) true ty).run Tryd.prog (w.iter s pos) = _ := fun ty => run_next_end w s pos ty hp
      have HE : Hid (Z = s.size) := by rw [HI.out.1, crs_end hp]; rfl
      have OI : Hid (Only (fun _ => False) w (w.iter s pos)) := (Only.refl _ w).iter s _
      clear HI HP
      go_wp2
      go_ret
      exact ⟨by rw [show Z = s.size from HE.out]; rfl, OI.out⟩
end Go.Proofs.YtapehdolnljnoaaDoor
namespace Go.Proofs.YtapehdolnljnoaaDoor
open Go.RowKit
set_option linter.unusedSimpArgs false
set_option linter.unusedVariables false
/-- What a sign behind a backslash means. -/
def une (c : Nat) : Option Nat := if c = 110 then some 10 else if c = 34 ∨ c = 92 then some c else none
def uneV (o : Option Nat) : Value := match o with
  | some c => .tuple #[.int .i32 (c : Int), .bool true]
  | none => .tuple #[.int .i32 0, .bool false]
set_option maxRecDepth 100000 in
set_option maxHeartbeats 1000000 in
theorem unescape_any (c : Nat) (w : World) : Calls Tryd.prog 70 #[.int .i32 (c : Int)] w fun e w' => e = .returned (uneV (une c)) ∧ w' = w := by
  by_cases h1 : c = 110
  · subst h1
    rw [show une 110 = some 10 from rfl]
    go_enter Tryd.func70, Tryd.ntmps70
    go_wp2
    go_ret2
    exact ⟨rfl, rfl⟩
  · by_cases h2 : c = 34
    · subst h2
      rw [show une 34 = some 34 from rfl]
      go_enter Tryd.func70, Tryd.ntmps70
      go_wp2
      go_ret2
      exact ⟨rfl, rfl⟩
    · by_cases h3 : c = 92
      · subst h3
        rw [show une 92 = some 92 from rfl]
        go_enter Tryd.func70, Tryd.ntmps70
        go_wp2
        go_ret2
        exact ⟨rfl, rfl⟩
      · have e : une c = none := by
          unfold une
          rw [if_neg h1, if_neg (by omega)]
        rw [e]
        have i1 : ¬ (c : Int) = 110 := by omega
        have i2 : ¬ (c : Int) = 34 := by omega
        have i3 : ¬ (c : Int) = 92 := by omega
        go_enter Tryd.func70, Tryd.ntmps70
        go_wp2
        go_ret2
        exact ⟨rfl, rfl⟩
end Go.Proofs.YtapehdolnljnoaaDoor
namespace Go.Proofs
open Go.Shelf
def Tryd.lays170_ren : Go.Shelf.Ren := ⟨fun | 170 => 72 | n => n, fun | 70 => 127 | 3 => 3 | 0 => 0 | 72 => 130 | 37 => 128 | 5 => 5 | n => n, fun | n => n⟩
theorem Tryd.lays170 : Go.Proofs.Lays.n170 Tryd.prog Tryd.lays170_ren := {
  mixed := by kernel_rfl
  f170 := Tryd.func72.trans (congrArg some (by kernel_rfl))
  t0 := Tryd.underlying0
  a0 := Tryd.isAgg0
  z0 := Tryd.sizeOf0
  v0 := Tryd.zeroValue0
  t3 := Tryd.underlying3
  a3 := Tryd.isAgg3
  z3 := Tryd.sizeOf3
  v3 := Tryd.zeroValue3
  t37 := Tryd.underlying128
  a37 := Tryd.isAgg128
  z37 := Tryd.sizeOf128
  v37 := Tryd.zeroValue128
  t70 := Tryd.underlying127
  a70 := Tryd.isAgg127
  z70 := Tryd.sizeOf127
  v70 := Tryd.zeroValue127
  t72 := Tryd.underlying130
  a72 := Tryd.isAgg130
  z72 := Tryd.sizeOf130
  v72 := Tryd.zeroValue130 }
open Go.RowKit in
/-- (*strings.Builder).Len: "Len returns the number of accumulated bytes; b.Len() == len(b.String()).": the world is as it was. (LAID: no walk: one application.) -/
theorem Tryd.Builder_Len (B b : Nat) (bs : List Value) (w : World) (h : Lib.IsBuilder 130 5 B b bs w) :
    Calls Tryd.prog 72 #[.pointer (some ⟨b, 0, none⟩)] w fun e w' => e = .returned (.int .i64 bs.length) ∧ w' = w := Any.Builder_Len Tryd.lays170 B b bs w h
def Tryd.lays169_ren : Go.Shelf.Ren := ⟨fun | 169 => 73 | n => n, fun | 70 => 127 | 9 => 9 | 0 => 0 | 72 => 130 | 37 => 128 | 127 => 141 | 3 => 3 | 5 => 5 | n => n, fun | n => n⟩
theorem Tryd.lays169 : Go.Proofs.Lays.n169 Tryd.prog Tryd.lays169_ren := {
  mixed := by kernel_rfl
  f169 := Tryd.func73.trans (congrArg some (by kernel_rfl))
  t0 := Tryd.underlying0
  a0 := Tryd.isAgg0
  z0 := Tryd.sizeOf0
  v0 := Tryd.zeroValue0
  t3 := Tryd.underlying3
  a3 := Tryd.isAgg3
  z3 := Tryd.sizeOf3
  v3 := Tryd.zeroValue3
  t9 := Tryd.underlying9
  a9 := Tryd.isAgg9
  z9 := Tryd.sizeOf9
  v9 := Tryd.zeroValue9
  t37 := Tryd.underlying128
  a37 := Tryd.isAgg128
  z37 := Tryd.sizeOf128
  v37 := Tryd.zeroValue128
  t70 := Tryd.underlying127
  a70 := Tryd.isAgg127
  z70 := Tryd.sizeOf127
  v70 := Tryd.zeroValue127
  t72 := Tryd.underlying130
  a72 := Tryd.isAgg130
  z72 := Tryd.sizeOf130
  v72 := Tryd.zeroValue130
  t127 := Tryd.underlying141
  a127 := Tryd.isAgg141
  z127 := Tryd.sizeOf141
  v127 := Tryd.zeroValue141 }
theorem Tryd.Builder_Extra_169 : Builder.Extra Tryd.prog Tryd.lays169_ren := {
  sizeBuilder := by kernel_rfl
  liesBuilder := by kernel_rfl
  t5 := Tryd.underlying5
  a5 := Tryd.isAgg5
  z5 := Tryd.sizeOf5
  v5 := Tryd.zeroValue5
  infoByte := by kernel_rfl
  cellsByte := by kernel_rfl
  sizeByte := by kernel_rfl
  neB5 := by decide }
open Go.RowKit in
/-- (*strings.Builder).String: "String returns the accumulated string.": OF A BUILDER THAT HOLDS AT LEAST ONE BYTE. ✋ THE MODEL FREEZES THOSE BYTES IN THE BUFFER (unsafe.String): a later write INTO them ends the model's run without an answer; a later append BEHIND them goes on. The statement's order of evaluation is drawn: one draw. (LAID: no walk: one application.) -/
theorem Tryd.Builder_String (B b : Nat) (l : List UInt8) (w : World) (h : Lib.IsBuilder 130 5 B b (Lib.byteCells l) w) (h0 : l ≠ []) :
    Calls Tryd.prog 73 #[.pointer (some ⟨b, 0, none⟩)] w fun e w' => e = .returned (.string ⟨l.toArray⟩) ∧ Below B w w' := Any.Builder_String Tryd.lays169 Tryd.Builder_Extra_169 B b l w h h0
open Go.RowKit in
/-- (*strings.Builder).String OF A BUILDER THAT HOLDS NO BYTE: the empty string. (Its buffer is nil, or a row of which it has taken nothing yet; where that row has NO capacity the model lays one new block for unsafe.SliceData's 'some address'.) One draw. (LAID: no walk: one application.) -/
theorem Tryd.Builder_String_empty (B b : Nat) (w : World) (h : Lib.IsBuilder 130 5 B b [] w) (hBw : B ≤ w.heap.size) :
    Calls Tryd.prog 73 #[.pointer (some ⟨b, 0, none⟩)] w fun e w' => e = .returned (.string ⟨#[]⟩) ∧ Below B w w' := Any.Builder_String_empty Tryd.lays169 Tryd.Builder_Extra_169 B b w h hBw
open Go.RowKit in
/-- (*strings.Builder).String: "String returns the accumulated string.": WHATEVER THE BUILDER HOLDS. (LAID: no walk: one application.) -/
theorem Tryd.Builder_String_any (B b : Nat) (l : List UInt8) (w : World) (h : Lib.IsBuilder 130 5 B b (Lib.byteCells l) w) (hBw : B ≤ w.heap.size) :
    Calls Tryd.prog 73 #[.pointer (some ⟨b, 0, none⟩)] w fun e w' => e = .returned (.string ⟨l.toArray⟩) ∧ Below B w w' := Any.Builder_String_any Tryd.lays169 Tryd.Builder_Extra_169 B b l w h hBw
open Go.RowKit in
/-- (*strings.Builder).Len: "Len returns the number of accumulated bytes; b.Len() == len(b.String()).": the world is as it was. (THE FORM '_f': 'Lib.IsBuilderF'.) (LAID: no walk: one application.) -/
theorem Tryd.Builder_Len_f (B b : Nat) (bs : List Value) (w : World) (h : Lib.IsBuilderF 130 5 B b bs w) :
    Calls Tryd.prog 72 #[.pointer (some ⟨b, 0, none⟩)] w fun e w' => e = .returned (.int .i64 bs.length) ∧ w' = w := Any.Builder_Len_f Tryd.lays170 B b bs w h
open Go.RowKit in
/-- (*strings.Builder).String: "String returns the accumulated string.": OF A BUILDER THAT HOLDS AT LEAST ONE BYTE. ✋ THE MODEL FREEZES THOSE BYTES IN THE BUFFER (unsafe.String): a later write INTO them ends the model's run without an answer; a later append BEHIND them goes on. The statement's order of evaluation is drawn: one draw. THE FORM '_f': IT SAYS BESIDES THAT THE BUILDER IS A BUILDER STILL ('Lib.IsBuilderF', the same bytes): SO IT CAN BE WRITTEN ON: 'b.WriteString(b.String()[:k])'. (LAID: no walk: one application.) -/
theorem Tryd.Builder_String_f (B b : Nat) (l : List UInt8) (w : World) (h : Lib.IsBuilderF 130 5 B b (Lib.byteCells l) w) (h0 : l ≠ []) :
    Calls Tryd.prog 73 #[.pointer (some ⟨b, 0, none⟩)] w fun e w' => e = .returned (.string ⟨l.toArray⟩) ∧ (Lib.IsBuilderF 130 5 B b (Lib.byteCells l) w' ∧ Below B w w') := Any.Builder_String_f Tryd.lays169 Tryd.Builder_Extra_169 B b l w h h0
open Go.RowKit in
/-- (*strings.Builder).String OF A BUILDER THAT HOLDS NO BYTE: the empty string; THE FORM '_f': a builder still. (LAID: no walk: one application.) -/
theorem Tryd.Builder_String_empty_f (B b : Nat) (w : World) (h : Lib.IsBuilderF 130 5 B b [] w) (hBw : B ≤ w.heap.size) :
    Calls Tryd.prog 73 #[.pointer (some ⟨b, 0, none⟩)] w fun e w' => e = .returned (.string ⟨#[]⟩) ∧ (Lib.IsBuilderF 130 5 B b [] w' ∧ Below B w w') := Any.Builder_String_empty_f Tryd.lays169 Tryd.Builder_Extra_169 B b w h hBw
open Go.RowKit in
/-- (*strings.Builder).String: "String returns the accumulated string.": WHATEVER THE BUILDER HOLDS; THE FORM '_f': OF A BUILDER THAT MAY HAVE BEEN READ BEFORE; AND IT IS A BUILDER STILL, holding the same bytes: it can be written on. (LAID: no walk: one application.) -/
theorem Tryd.Builder_String_any_f (B b : Nat) (l : List UInt8) (w : World) (h : Lib.IsBuilderF 130 5 B b (Lib.byteCells l) w) (hBw : B ≤ w.heap.size) :
    Calls Tryd.prog 73 #[.pointer (some ⟨b, 0, none⟩)] w fun e w' => e = .returned (.string ⟨l.toArray⟩) ∧ (Lib.IsBuilderF 130 5 B b (Lib.byteCells l) w' ∧ Below B w w') := Any.Builder_String_any_f Tryd.lays169 Tryd.Builder_Extra_169 B b l w h hBw
open Go.RowKit in
/-- (*strings.Builder).String: "String returns the accumulated string.": OF A BUILDER THAT HOLDS AT LEAST ONE BYTE. ✋ THE MODEL FREEZES THOSE BYTES IN THE BUFFER (unsafe.String): a later write INTO them ends the model's run without an answer; a later append BEHIND them goes on. The statement's order of evaluation is drawn: one draw. THE FORM '_k': OVER 'Lib.IsBuilderF' (a builder that 'String()' may have read), AND WITH THE FRAME THAT REACHES ABOVE THE BUILDER: 'Lib.OthersKept': every block that is not b and is no row of uint8's stands as it stood: the iterator of a range among them. (LAID: no walk: one application.) -/
theorem Tryd.Builder_String_k (B b : Nat) (l : List UInt8) (w : World) (h : Lib.IsBuilderF 130 5 B b (Lib.byteCells l) w) (h0 : l ≠ []) :
    Calls Tryd.prog 73 #[.pointer (some ⟨b, 0, none⟩)] w fun e w' => e = .returned (.string ⟨l.toArray⟩) ∧ (Lib.IsBuilderF 130 5 B b (Lib.byteCells l) w' ∧ Below B w w' ∧ Lib.OthersKept 5 (some b) w w') := Any.Builder_String_k Tryd.lays169 Tryd.Builder_Extra_169 B b l w h h0
open Go.RowKit in
/-- (*strings.Builder).String OF A BUILDER THAT HOLDS NO BYTE: the empty string; THE FORM '_k': OVER 'Lib.IsBuilderF' (a builder that 'String()' may have read), AND WITH THE FRAME THAT REACHES ABOVE THE BUILDER: 'Lib.OthersKept': every block that is not b and is no row of uint8's stands as it stood: the iterator of a range among them. (LAID: no walk: one application.) -/
theorem Tryd.Builder_String_empty_k (B b : Nat) (w : World) (h : Lib.IsBuilderF 130 5 B b [] w) (hBw : B ≤ w.heap.size) :
    Calls Tryd.prog 73 #[.pointer (some ⟨b, 0, none⟩)] w fun e w' => e = .returned (.string ⟨#[]⟩) ∧ (Lib.IsBuilderF 130 5 B b [] w' ∧ Below B w w' ∧ Lib.OthersKept 5 (some b) w w') := Any.Builder_String_empty_k Tryd.lays169 Tryd.Builder_Extra_169 B b w h hBw
open Go.RowKit in
/-- (*strings.Builder).String: "String returns the accumulated string.": WHATEVER THE BUILDER HOLDS; THE FORM '_k': OVER 'Lib.IsBuilderF' (a builder that 'String()' may have read), AND WITH THE FRAME THAT REACHES ABOVE THE BUILDER: 'Lib.OthersKept': every block that is not b and is no row of uint8's stands as it stood: the iterator of a range among them. (LAID: no walk: one application.) -/
theorem Tryd.Builder_String_any_k (B b : Nat) (l : List UInt8) (w : World) (h : Lib.IsBuilderF 130 5 B b (Lib.byteCells l) w) (hBw : B ≤ w.heap.size) :
    Calls Tryd.prog 73 #[.pointer (some ⟨b, 0, none⟩)] w fun e w' => e = .returned (.string ⟨l.toArray⟩) ∧ (Lib.IsBuilderF 130 5 B b (Lib.byteCells l) w' ∧ Below B w w' ∧ Lib.OthersKept 5 (some b) w w') := Any.Builder_String_any_k Tryd.lays169 Tryd.Builder_Extra_169 B b l w h hBw
def Tryd.laysM316_ren : Go.Shelf.Ren := ⟨fun | 316 => 79 | n => n, fun | 9 => 9 | 3 => 3 | 4 => 4 | 37 => 128 | 0 => 0 | 127 => 141 | 5 => 5 | n => n, fun | n => n⟩
theorem Tryd.laysM316 : Go.Proofs.LaysM.n316 Tryd.prog Tryd.laysM316_ren := {
  mixed := by kernel_rfl
  f316 := Tryd.func79.trans (congrArg some (by kernel_rfl))
  t0 := Tryd.underlying0
  a0 := Tryd.isAgg0
  z0 := Tryd.sizeOf0
  v0 := Tryd.zeroValue0
  t3 := Tryd.underlying3
  a3 := Tryd.isAgg3
  z3 := Tryd.sizeOf3
  v3 := Tryd.zeroValue3
  t4 := Tryd.underlying4
  a4 := Tryd.isAgg4
  z4 := Tryd.sizeOf4
  v4 := Tryd.zeroValue4
  t9 := Tryd.underlying9
  a9 := Tryd.isAgg9
  z9 := Tryd.sizeOf9
  v9 := Tryd.zeroValue9
  t37 := Tryd.underlying128
  a37 := Tryd.isAgg128
  z37 := Tryd.sizeOf128
  v37 := Tryd.zeroValue128
  t127 := Tryd.underlying141
  a127 := Tryd.isAgg141
  z127 := Tryd.sizeOf141
  v127 := Tryd.zeroValue141
  t5 := Tryd.underlying5
  a5 := Tryd.isAgg5
  z5 := Tryd.sizeOf5
  v5 := Tryd.zeroValue5
  i0 := by kernel_rfl
  i3 := by kernel_rfl
  i4 := by kernel_rfl
  i5 := by kernel_rfl
  i9 := by kernel_rfl
  i37 := by kernel_rfl
  i127 := by kernel_rfl }
open Go.RowKit in
/-- internal/stringslite.Clone (what strings.Clone calls): "Clone returns a fresh copy of s.": THE SAME BYTES. Of what was there nothing has turned (a new row is laid, and frozen, where s is not empty). (LAID: no walk: one application.) -/
theorem Tryd.stringslite_Clone (s : ByteArray) (w : World) (hlim : s.size ≤ 281474976710656) :
    Calls Tryd.prog 79 #[.string s] w fun e w' => e = .returned (.string s) ∧ Below w.heap.size w w' := Any.stringslite_Clone Tryd.laysM316 s w hlim
end Go.Proofs
namespace Go.Proofs.YtapehdolnljnoaaDoor
open Go.RowKit
set_option linter.unusedSimpArgs false
set_option linter.unusedVariables false
set_option maxRecDepth 100000 in
theorem clone_any (s : ByteArray) (w : World) (hs : s.size ≤ 281474976710656) : Calls Tryd.prog 74 #[.string s] w fun e w' => e = .returned (.string s) ∧ Below w.heap.size w w' := by
  have H : Hid (Calls Tryd.prog 79 #[.string s] w fun e w' => e = .returned (.string s) ∧ Below w.heap.size w w') := Tryd.stringslite_Clone s w hs
  go_enter Tryd.func74, Tryd.ntmps74
  go_wp2_with fail
  refine (show Calls Tryd.prog 79 _ _ _ from H.out).mono ?_
  rintro e w1 ⟨rfl, b⟩
  have HB : Hid (Below w.heap.size w w1) := b
  clear H b
  go_wp2
  go_ret
  exact ⟨rfl, HB.out⟩
end Go.Proofs.YtapehdolnljnoaaDoor
namespace Go.Proofs.YtapehdolnljnoaaDoor
open Go.RowKit
set_option linter.unusedSimpArgs false
set_option linter.unusedVariables false
theorem below_only {w w' : World} (h : Below w.heap.size w w') : Only (fun _ => False) w w' := ⟨h.os, h.tape, h.output, h.size, fun k hk _ => h.block k hk⟩
theorem blk_cells {w : World} {B : Nat} {c : Array Value} {t : TypeId} (h : w.heap[B]? = some (.cells c t)) (j : Nat) : w.cell? ⟨B, j, none⟩ = c[j]? := by
  simp [World.cell?, h]
theorem blk_froz {w : World} {B : Nat} {c : Array Value} {t : TypeId} (h : w.heap[B]? = some (.cells c t)) (j : Nat) : w.frozen? ⟨B, j, none⟩ = false := by
  simp [World.frozen?, h]
/-- A token: kind, text, number, place. -/
structure Tok where
  k : Int
  t : ByteArray
  n : Int
  a : Int
def Tok.v (x : Tok) : Value := .agg #[.int .i64 x.k, .string x.t, .int .i64 x.n, .int .i64 x.a]
/-- What reading a token answers: the token, the place behind it or of its fault, the error. -/
def rdV (x : Tok × Nat × Int) : Value := .tuple #[x.1.v, .int .i64 (x.2.1 : Int), .int .i64 x.2.2]
def wrdR (s : ByteArray) (a : Nat) : Tok × Nat × Int :=
  let z := fnd (fun c => blk c) s a
  let b := s.extract a z
  if (numR b).2 = 0 then (⟨2, ⟨#[]⟩, (numR b).1, a⟩, z, 0)
  else if (numR b).2 = 11 then (⟨0, ⟨#[]⟩, 0, 0⟩, a, 11)
  else if nmdB b = false then (⟨0, ⟨#[]⟩, 0, 0⟩, a, 10)
  else (⟨1, b, 0, a⟩, z, 0)
theorem results_tok {fn : Func} {t u v : Tmp} (h : fn.results = #[.cell u 66, .tmp t, .tmp v]) (tmps : Array Value) (w : World) (B : Nat) {x y z r : Value} (h0 : w.cell? ⟨B, 0, none⟩ = some x) (h1 : w.cell? ⟨B, 1, none⟩ = some y) (h2 : w.cell? ⟨B, 2, none⟩ = some z) (h3 : w.cell? ⟨B, 3, none⟩ = some r) (ha : tmps.getD u undef = .pointer (some ⟨B, 0, none⟩)) :
    (results fn tmps).run Tryd.prog w = .ok (.tuple #[.agg #[x, y, z, r], tmps.getD t undef, tmps.getD v undef]) w := by
  have ha' : tmps[u]?.getD undef = .pointer (some ⟨B, 0, none⟩) := by simpa using ha
  simp [results, h, ha', asAddr, go_sem, loadVar, isAgg, Tryd.underlying66, h0, h1, h2, h3]
/-- Four cells set. -/
theorem set4 {w : World} {B : Nat} {c : Array Value} {t : TypeId} (h : w.heap[B]? = some (.cells c t)) (hc : c.size = 4) (x y z r : Value) :
    ((((w.setCell ⟨B, 0, none⟩ x).setCell ⟨B, 1, none⟩ y).setCell ⟨B, 2, none⟩ z).setCell ⟨B, 3, none⟩ r).cell? ⟨B, 0, none⟩ = some x ∧ ((((w.setCell ⟨B, 0, none⟩ x).setCell ⟨B, 1, none⟩ y).setCell ⟨B, 2, none⟩ z).setCell ⟨B, 3, none⟩ r).cell? ⟨B, 1, none⟩ = some y ∧ ((((w.setCell ⟨B, 0, none⟩ x).setCell ⟨B, 1, none⟩ y).setCell ⟨B, 2, none⟩ z).setCell ⟨B, 3, none⟩ r).cell? ⟨B, 2, none⟩ = some z ∧ ((((w.setCell ⟨B, 0, none⟩ x).setCell ⟨B, 1, none⟩ y).setCell ⟨B, 2, none⟩ z).setCell ⟨B, 3, none⟩ r).cell? ⟨B, 3, none⟩ = some r := by
  have c0 : (w.cell? ⟨B, 0, none⟩).isSome = true := by rw [blk_cells h]; simp [hc]
  have c1 : (w.cell? ⟨B, 1, none⟩).isSome = true := by rw [blk_cells h]; simp [hc]
  have c2 : (w.cell? ⟨B, 2, none⟩).isSome = true := by rw [blk_cells h]; simp [hc]
  have c3 : (w.cell? ⟨B, 3, none⟩).isSome = true := by rw [blk_cells h]; simp [hc]
  have ne : ∀ (W : World) (i j : Nat) (v : Value), i ≠ j → (W.setCell ⟨B, i, none⟩ v).cell? ⟨B, j, none⟩ = W.cell? ⟨B, j, none⟩ := fun W i j v g => by apply World.cell?_setCell_other; intro e; exact g (by injection e)
  refine ⟨?_, ?_, ?_, ?_⟩
  · rw [ne _ 3 0 _ (by omega), ne _ 2 0 _ (by omega), ne _ 1 0 _ (by omega)]
    exact World.cell?_setCell_same' _ _ _ c0
  · rw [ne _ 3 1 _ (by omega), ne _ 2 1 _ (by omega)]
    exact World.cell?_setCell_same' _ _ _ (by rw [ne _ 0 1 _ (by omega)]; exact c1)
  · rw [ne _ 3 2 _ (by omega)]
    exact World.cell?_setCell_same' _ _ _ (by rw [ne _ 1 2 _ (by omega), ne _ 0 2 _ (by omega)]; exact c2)
  · exact World.cell?_setCell_same' _ _ _ (by rw [ne _ 2 3 _ (by omega), ne _ 1 3 _ (by omega), ne _ 0 3 _ (by omega)]; exact c3)
set_option maxRecDepth 100000 in
set_option maxHeartbeats 1000000 in
theorem readWord_any (s : ByteArray) (a : Nat) (ha : a ≤ s.size) (hs : s.size ≤ 1000000) (w : World) (h : Nog w) :
    Calls Tryd.prog 67 #[.string s, .int .i64 (a : Int)] w fun e w' => e = .returned (rdV (wrdR s a)) ∧ Only (fun _ => False) w w' := by
  have HW : Hid (∀ w1, Calls Tryd.prog 69 #[.string s, .int .i64 (a : Int)] w1 fun e w' => e = .returned (.int .i64 (fnd (fun c => blk c) s a : Nat)) ∧ Only (fun _ => False) w1 w') := fun w1 => wordEnd_any s a ha hs w1
  have hz := fnd_le (fun c => blk c) s ha
  unfold wrdR
  obtain ⟨z, hzz⟩ : ∃ z, z = fnd (fun c => blk c) s a := ⟨_, rfl⟩
  rw [← hzz] at HW hz ⊢
  clear hzz
  obtain ⟨b, hb⟩ : ∃ b, b = s.extract a z := ⟨_, rfl⟩
  have hsl : ∀ W : World, (Instr.slice 9 (.string s) (some (.int .i64 (a : Int))) (some (.int .i64 (z : Int))) none).run Tryd.prog W = .ok (.string b) W := fun W => by
    rw [run_slice_string W 9 s _ _ _ _ Tryd.underlying9 (by omega) (by omega) (by omega), hb]
    rfl
  have hbz : b.size ≤ 1000000 := by rw [hb, ByteArray.size_extract]; omega
  simp only [← hb]
  clear hb
  have HC : Hid (∀ w1, Calls Tryd.prog 74 #[.string b] w1 fun e w' => e = .returned (.string b) ∧ Only (fun _ => False) w1 w') := fun w1 => (clone_any b w1 (by omega)).mono fun e w' g => ⟨g.1, below_only g.2⟩
  have HM : Hid (∀ w1, Only (fun _ => False) w w1 → Calls Tryd.prog 75 #[.string b] w1 fun e w' => e = .returned (.tuple #[.int .i64 (numR b).1, .int .i64 (numR b).2]) ∧ Only (fun _ => False) w1 w') := fun w1 o => number_any b w1 (h.frame o)
  have HN : Hid (∀ w1, Calls Tryd.prog 76 #[.string b] w1 fun e w' => e = .returned (.bool (nmdB b)) ∧ Only (fun _ => False) w1 w') := fun w1 => named_any b w1
  obtain ⟨n, hn⟩ : ∃ x, x = (numR b).1 := ⟨_, rfl⟩
  obtain ⟨k, hk⟩ : ∃ x, x = (numR b).2 := ⟨_, rfl⟩
  obtain ⟨y, hy⟩ : ∃ x, x = nmdB b := ⟨_, rfl⟩
  rw [← hn, ← hk] at HM
  rw [← hy] at HN
  rw [← hn, ← hk, ← hy]
  clear hn hk hy h
  have O0 : Hid (Only (fun _ => False) w w) := Only.refl _ _
  go_enter Tryd.func67, Tryd.ntmps67
  go_wp2_with fail
  refine (show Calls Tryd.prog 69 _ _ _ from HW.out _).mono ?_
  rintro e w1 ⟨rfl, o1⟩
  obtain ⟨B, hB⟩ : ∃ B, B = w.heap.size := ⟨_, rfl⟩
  have O1 : Hid (Only (fun _ => False) w w1) := (O0.out.alloc _).trans o1 (fun _ _ g => g)
  have R1 : Hid (w1.heap[B]? = some (.cells #[.int .i64 0, .string ⟨#[]⟩, .int .i64 0, .int .i64 0] 66)) := by
    have := o1.block w.heap.size (by show w.heap.size < (w.heap.push _).size; rw [Array.size_push]; omega) (fun g => g)
    rw [hB]
    exact this.trans (Array.getElem?_push_size ..)
  have HB : Hid (B = w.heap.size) := hB
  rw [← hB]
  clear HW O0 o1 hB
  go_wp2_with fail
  refine (show Calls Tryd.prog 74 _ _ _ from HC.out _).mono ?_
  rintro e w2 ⟨rfl, o2⟩
  have O2 : Hid (Only (fun _ => False) w w2) := O1.out.trans o2 (fun _ _ g => g)
  have lt1 : B < w1.heap.size := (Array.getElem?_eq_some_iff.1 R1.out).1
  have R2 : Hid (w2.heap[B]? = some (.cells #[.int .i64 0, .string ⟨#[]⟩, .int .i64 0, .int .i64 0] 66)) := (o2.block B lt1 (fun g => g)).trans R1.out
  clear HC O1 R1 o2
  go_wp2_with fail
  refine (show Calls Tryd.prog 75 _ _ _ from HM.out _ O2.out).mono ?_
  rintro e w3 ⟨rfl, o3⟩
  have O3 : Hid (Only (fun _ => False) w w3) := O2.out.trans o3 (fun _ _ g => g)
  have lt2 : B < w2.heap.size := (Array.getElem?_eq_some_iff.1 R2.out).1
  have R3 := (o3.block B lt2 (fun g => g)).trans R2.out
  have c0 := blk_cells R3 0
  have c1 := blk_cells R3 1
  have c2 := blk_cells R3 2
  have c3 := blk_cells R3 3
  have z0 := blk_froz R3 0
  have z1 := blk_froz R3 1
  have z2 := blk_froz R3 2
  have z3 := blk_froz R3 3
  simp only [List.getElem?_toArray, List.getElem?_cons_zero, List.getElem?_cons_succ] at c0 c1 c2 c3
  clear HM O2 R2 o3 lt1 lt2
  by_cases hk : k = 0
  · subst hk
    go_wp2
    obtain ⟨q0, q1, q2, q3⟩ := set4 R3 rfl (.int .i64 2) (.string ⟨#[]⟩) (.int .i64 n) (.int .i64 (a : Int))
    refine bodyPost_ret (results_tok rfl _ _ B q0 q1 q2 q3 rfl) rfl ?_
    exact ⟨rfl, (((O3.out.setCell _ _ (fun g => by have : B = w.heap.size := HB.out; simp only at g; omega)).setCell _ _ (fun g => by have : B = w.heap.size := HB.out; simp only at g; omega)).setCell _ _ (fun g => by have : B = w.heap.size := HB.out; simp only at g; omega)).setCell _ _ (fun g => by have : B = w.heap.size := HB.out; simp only at g; omega)⟩
  · by_cases hl : k = 11
    · subst hl
      go_wp2
      obtain ⟨q0, q1, q2, q3⟩ := set4 R3 rfl (.int .i64 0) (.string ⟨#[]⟩) (.int .i64 0) (.int .i64 0)
      refine bodyPost_ret (results_tok rfl _ _ B q0 q1 q2 q3 rfl) rfl ?_
      exact ⟨rfl, (((O3.out.setCell _ _ (fun g => by have : B = w.heap.size := HB.out; simp only at g; omega)).setCell _ _ (fun g => by have : B = w.heap.size := HB.out; simp only at g; omega)).setCell _ _ (fun g => by have : B = w.heap.size := HB.out; simp only at g; omega)).setCell _ _ (fun g => by have : B = w.heap.size := HB.out; simp only at g; omega)⟩
    · clear c0 c1 c2 c3 z0 z1 z2 z3
      go_wp2_with fail
      refine (show Calls Tryd.prog 76 _ _ _ from HN.out _).mono ?_
      rintro e w4 ⟨rfl, o4⟩
      have O4 : Hid (Only (fun _ => False) w w4) := O3.out.trans o4 (fun _ _ g => g)
      have lt3 : B < w3.heap.size := (Array.getElem?_eq_some_iff.1 R3).1
      have R4 := (o4.block B lt3 (fun g => g)).trans R3
      have c0 := blk_cells R4 0
      have c1 := blk_cells R4 1
      have c2 := blk_cells R4 2
      have c3 := blk_cells R4 3
      have z0 := blk_froz R4 0
      have z1 := blk_froz R4 1
      have z2 := blk_froz R4 2
      have z3 := blk_froz R4 3
      simp only [List.getElem?_toArray, List.getElem?_cons_zero, List.getElem?_cons_succ] at c0 c1 c2 c3
      clear HN O3 R3 o4 lt3
      cases y with
      | false =>
        go_wp2
        obtain ⟨q0, q1, q2, q3⟩ := set4 R4 rfl (.int .i64 0) (.string ⟨#[]⟩) (.int .i64 0) (.int .i64 0)
        refine bodyPost_ret (results_tok rfl _ _ B q0 q1 q2 q3 rfl) rfl ?_
        exact ⟨rfl, (((O4.out.setCell _ _ (fun g => by have : B = w.heap.size := HB.out; simp only at g; omega)).setCell _ _ (fun g => by have : B = w.heap.size := HB.out; simp only at g; omega)).setCell _ _ (fun g => by have : B = w.heap.size := HB.out; simp only at g; omega)).setCell _ _ (fun g => by have : B = w.heap.size := HB.out; simp only at g; omega)⟩
      | true =>
        go_wp2
        obtain ⟨q0, q1, q2, q3⟩ := set4 R4 rfl (.int .i64 1) (.string b) (.int .i64 0) (.int .i64 (a : Int))
        refine bodyPost_ret (results_tok rfl _ _ B q0 q1 q2 q3 rfl) rfl ?_
        exact ⟨rfl, (((O4.out.setCell _ _ (fun g => by have : B = w.heap.size := HB.out; simp only at g; omega)).setCell _ _ (fun g => by have : B = w.heap.size := HB.out; simp only at g; omega)).setCell _ _ (fun g => by have : B = w.heap.size := HB.out; simp only at g; omega)).setCell _ _ (fun g => by have : B = w.heap.size := HB.out; simp only at g; omega)⟩
end Go.Proofs.YtapehdolnljnoaaDoor
namespace Go.Proofs.YtapehdolnljnoaaDoor
open Go.RowKit Go.Lib
set_option linter.unusedSimpArgs false
set_option linter.unusedVariables false
set_option maxRecDepth 100000 in
theorem byte_info : ∃ i, Tryd.prog.info? 5 = some i ∧ i.zero = some (.int .u8 0) ∧ i.size = 1 ∧ i.bytes = 1 := ⟨_, rfl, rfl, rfl, rfl⟩
set_option maxHeartbeats 2000000 in
set_option maxRecDepth 100000 in
theorem check_used (b : Nat) (w : World) (h0 : w.cell? ⟨b, 0, none⟩ = some (.pointer (some ⟨b, 0, none⟩))) :
    Calls Tryd.prog 77 #[.pointer (some ⟨b, 0, none⟩)] w fun e w' => e = .returned (.tuple #[]) ∧ w' = w := by
  obtain ⟨j, hj⟩ : ∃ j, Tryd.prog.info? 130 = some j := ⟨_, rfl⟩
  go_enter Tryd.func77, Tryd.ntmps77
  go_wp2
  rw [run_neq_ptr_same w _ Tryd.underlying127 hj]
  go_wp2
  go_end0
  exact ⟨rfl, rfl⟩
set_option maxHeartbeats 2000000 in
set_option maxRecDepth 100000 in
theorem check_fresh (b : Nat) (w : World) (h0 : w.cell? ⟨b, 0, none⟩ = some (.pointer none)) (hsh : w.shape? b = some (130, 2)) (hfz : w.frozen? ⟨b, 0, none⟩ = false) :
    Calls Tryd.prog 77 #[.pointer (some ⟨b, 0, none⟩)] w fun e w' => e = .returned (.tuple #[]) ∧ w' = w.setCell ⟨b, 0, none⟩ (.pointer (some ⟨b, 0, none⟩)) := by
  obtain ⟨j, hj, hjs⟩ : ∃ j, Tryd.prog.info? 130 = some j ∧ j.size = 2 := ⟨_, rfl, rfl⟩
  have lies : liesAt Tryd.prog Tryd.prog.depth 130 (2 / Tryd.prog.cellsOf 130) 0 130 1 = true := by kernel_rfl
  go_enter Tryd.func77, Tryd.ntmps77
  go_wp2
  rw [run_to_unsafe w ⟨b, 0, none⟩ Tryd.underlying127 Tryd.underlying146 hj (by rw [hjs]; decide) hsh (Nat.zero_lt_succ 1)]
  simp only [Result.andThen]
  rw [Oper.upon_value]
  go_wp2
  rw [run_callFunc_extern Tryd.func83 (by kernel_rfl) (by kernel_rfl) (by kernel_rfl) (e := Extern.AbiNoEscape.same) (by kernel_rfl)]
  rw [run_noEscape]
  simp only [Result.andThen]
  rw [Oper.upon_value]
  go_wp2
  rw [run_from_unsafe w ⟨b, 0, none⟩ Tryd.underlying146 Tryd.underlying127 hj hsh lies]
  simp only [Result.andThen]
  rw [Oper.upon_value]
  go_wp2
  go_end0
  exact ⟨rfl, rfl⟩
/-- A builder at block b of the bytes bs, all made from block B on. -/
def Bu (B b : Nat) (bs : List Value) (w : World) : Prop := IsBuilderF 130 5 B b bs w
/-- What a call on a builder leaves alone. -/
def Kept (B b : Nat) (w w' : World) : Prop := Below B w w' ∧ OthersKept 5 (some b) w w'
theorem check_any (B b : Nat) (bs : List Value) (w : World) (h : Bu B b bs w) :
    Calls Tryd.prog 77 #[.pointer (some ⟨b, 0, none⟩)] w fun e w' => e = .returned (.tuple #[]) ∧ BuilderAtF 130 5 B b (.pointer (some ⟨b, 0, none⟩)) bs w' ∧ Kept B b w w' := by
  rcases h with h | h
  · refine (check_fresh b w h.cell0 h.shape h.frozen0).mono ?_
    rintro e w' ⟨rfl, rfl⟩
    exact ⟨rfl, h.used _, (Below.refl B w).setCell (p := ⟨b, 0, none⟩) h.1 _, (OthersKept.refl _ _ w).setCell ⟨b, 0, none⟩ rfl _⟩
  · refine (check_used b w h.cell0).mono ?_
    rintro e w' ⟨rfl, rfl⟩
    exact ⟨rfl, h, Below.refl B _, OthersKept.refl _ _ _⟩
set_option maxHeartbeats 4000000 in
set_option maxRecDepth 100000 in
theorem rune_two (B : Nat) (v : Value) (n : Nat) (xs : List Value) (r : Int) (h0 : 128 ≤ r) (h1 : r ≤ 2047) (w : World) (hown : w.ownsRowF B 5 1 v n xs) (hlen : n + 4 ≤ 140737488355328) (hBw : B ≤ w.heap.size) :
    Calls Tryd.prog 84 #[v, .int .i32 r] w fun e w' => ∃ v', e = .returned v' ∧ w'.ownsRowF B 5 1 v' (n + 2) (xs ++ [.int .u8 (192 + r / 64), .int .u8 (128 + r % 64)]) ∧ ∃ o, (w.alloc o).grownBy w' v.ownBlock := by
  obtain ⟨i0, hi, hz0, hz1, hz2⟩ := byte_info
  go_enter Tryd.func84, Tryd.ntmps84
  go_wp2_with (at_builtin; refine wpList_append_ownF _ rfl _ _ 128 rfl B 5 i0 (.int .u8 0) 1 1 Tryd.underlying128 hi hz0 hz1 hz2 rfl (by decide) _ _ _ rfl (hown.alloc _) ⟨w.heap.size, 0, none⟩ 2 2 [.int .u8 (192 + r / 64), .int .u8 (128 + r % 64)] rfl rfl ?c1 ?c2 ?c3 ?c4 ?c5 ?_)
  case c1 =>
    intro j u hj
    rcases j with _ | _ | _ | _ | j <;> simp at hj <;> subst hj <;> simp [Addr.add]
  case c2 =>
    intro u hu
    simp only [List.mem_cons, List.not_mem_nil, or_false] at hu
    rcases hu with rfl | rfl <;> rfl
  case c3 => unfold maxLen; omega
  case c4 => omega
  case c5 => simp; omega
  intro v' w2 hown' hgrow _
  go_wp2
  go_ret
  exact ⟨_, rfl, hown', _, hgrow⟩
set_option maxHeartbeats 4000000 in
set_option maxRecDepth 100000 in
theorem rune_lo (B : Nat) (v : Value) (n : Nat) (xs : List Value) (r : Int) (h0 : 2048 ≤ r) (h1 : r < 55296) (w : World) (hown : w.ownsRowF B 5 1 v n xs) (hlen : n + 4 ≤ 140737488355328) (hBw : B ≤ w.heap.size) :
    Calls Tryd.prog 84 #[v, .int .i32 r] w fun e w' => ∃ v', e = .returned v' ∧ w'.ownsRowF B 5 1 v' (n + 3) (xs ++ [.int .u8 (224 + r / 4096), .int .u8 (128 + r / 64 % 64), .int .u8 (128 + r % 64)]) ∧ ∃ o, (w.alloc o).grownBy w' v.ownBlock := by
  obtain ⟨i0, hi, hz0, hz1, hz2⟩ := byte_info
  go_enter Tryd.func84, Tryd.ntmps84
  go_wp2_with (at_builtin; refine wpList_append_ownF _ rfl _ _ 128 rfl B 5 i0 (.int .u8 0) 1 1 Tryd.underlying128 hi hz0 hz1 hz2 rfl (by decide) _ _ _ rfl (hown.alloc _) ⟨w.heap.size, 0, none⟩ 3 3 [.int .u8 (224 + r / 4096), .int .u8 (128 + r / 64 % 64), .int .u8 (128 + r % 64)] rfl rfl ?c1 ?c2 ?c3 ?c4 ?c5 ?_)
  case c1 =>
    intro j u hj
    rcases j with _ | _ | _ | _ | j <;> simp at hj <;> subst hj <;> simp [Addr.add]
  case c2 =>
    intro u hu
    simp only [List.mem_cons, List.not_mem_nil, or_false] at hu
    rcases hu with rfl | rfl | rfl <;> rfl
  case c3 => unfold maxLen; omega
  case c4 => omega
  case c5 => simp; omega
  intro v' w2 hown' hgrow _
  go_wp2
  go_ret
  exact ⟨_, rfl, hown', _, hgrow⟩
set_option maxHeartbeats 4000000 in
set_option maxRecDepth 100000 in
theorem rune_hi (B : Nat) (v : Value) (n : Nat) (xs : List Value) (r : Int) (h0 : 57343 < r) (h1 : r ≤ 65535) (w : World) (hown : w.ownsRowF B 5 1 v n xs) (hlen : n + 4 ≤ 140737488355328) (hBw : B ≤ w.heap.size) :
    Calls Tryd.prog 84 #[v, .int .i32 r] w fun e w' => ∃ v', e = .returned v' ∧ w'.ownsRowF B 5 1 v' (n + 3) (xs ++ [.int .u8 (224 + r / 4096), .int .u8 (128 + r / 64 % 64), .int .u8 (128 + r % 64)]) ∧ ∃ o, (w.alloc o).grownBy w' v.ownBlock := by
  obtain ⟨i0, hi, hz0, hz1, hz2⟩ := byte_info
  go_enter Tryd.func84, Tryd.ntmps84
  go_wp2_with (at_builtin; refine wpList_append_ownF _ rfl _ _ 128 rfl B 5 i0 (.int .u8 0) 1 1 Tryd.underlying128 hi hz0 hz1 hz2 rfl (by decide) _ _ _ rfl (hown.alloc _) ⟨w.heap.size, 0, none⟩ 3 3 [.int .u8 (224 + r / 4096), .int .u8 (128 + r / 64 % 64), .int .u8 (128 + r % 64)] rfl rfl ?c1 ?c2 ?c3 ?c4 ?c5 ?_)
  case c1 =>
    intro j u hj
    rcases j with _ | _ | _ | _ | j <;> simp at hj <;> subst hj <;> simp [Addr.add]
  case c2 =>
    intro u hu
    simp only [List.mem_cons, List.not_mem_nil, or_false] at hu
    rcases hu with rfl | rfl | rfl <;> rfl
  case c3 => unfold maxLen; omega
  case c4 => omega
  case c5 => simp; omega
  intro v' w2 hown' hgrow _
  go_wp2
  go_ret
  exact ⟨_, rfl, hown', _, hgrow⟩
set_option maxHeartbeats 4000000 in
set_option maxRecDepth 100000 in
theorem rune_four (B : Nat) (v : Value) (n : Nat) (xs : List Value) (r : Int) (h0 : 65536 ≤ r) (h1 : r ≤ 1114111) (w : World) (hown : w.ownsRowF B 5 1 v n xs) (hlen : n + 4 ≤ 140737488355328) (hBw : B ≤ w.heap.size) :
    Calls Tryd.prog 84 #[v, .int .i32 r] w fun e w' => ∃ v', e = .returned v' ∧ w'.ownsRowF B 5 1 v' (n + 4) (xs ++ [.int .u8 (240 + r / 262144), .int .u8 (128 + r / 4096 % 64), .int .u8 (128 + r / 64 % 64), .int .u8 (128 + r % 64)]) ∧ ∃ o, (w.alloc o).grownBy w' v.ownBlock := by
  obtain ⟨i0, hi, hz0, hz1, hz2⟩ := byte_info
  go_enter Tryd.func84, Tryd.ntmps84
  go_wp2_with (at_builtin; refine wpList_append_ownF _ rfl _ _ 128 rfl B 5 i0 (.int .u8 0) 1 1 Tryd.underlying128 hi hz0 hz1 hz2 rfl (by decide) _ _ _ rfl (hown.alloc _) ⟨w.heap.size, 0, none⟩ 4 4 [.int .u8 (240 + r / 262144), .int .u8 (128 + r / 4096 % 64), .int .u8 (128 + r / 64 % 64), .int .u8 (128 + r % 64)] rfl rfl ?c1 ?c2 ?c3 ?c4 ?c5 ?_)
  case c1 =>
    intro j u hj
    rcases j with _ | _ | _ | _ | j <;> simp at hj <;> subst hj <;> simp [Addr.add]
  case c2 =>
    intro u hu
    simp only [List.mem_cons, List.not_mem_nil, or_false] at hu
    rcases hu with rfl | rfl | rfl | rfl <;> rfl
  case c3 => unfold maxLen; omega
  case c4 => omega
  case c5 => simp; omega
  intro v' w2 hown' hgrow _
  go_wp2
  go_ret
  exact ⟨_, rfl, hown', _, hgrow⟩
/-- A character: a number that a text may hold. -/
def Vr (r : Nat) : Prop := r < 55296 ∨ (57343 < r ∧ r ≤ 1114111)
set_option maxHeartbeats 4000000 in
set_option maxRecDepth 100000 in
theorem appendRune_any (B : Nat) (v : Value) (n : Nat) (xs : List Value) (r : Nat) (hr : Vr r) (w : World) (hown : w.ownsRowF B 5 1 v n xs) (hlen : n + 4 ≤ 140737488355328) (hBw : B ≤ w.heap.size) :
    Calls Tryd.prog 78 #[v, .int .i32 (r : Int)] w fun e w' => ∃ v', e = .returned v' ∧ w'.ownsRowF B 5 1 v' (n + (runeCells r).length) (xs ++ runeCells r) ∧ ∃ o, (w.alloc o).grownBy w' v.ownBlock := by
  by_cases h1 : r ≤ 127
  · have e : runeCells (r : Int) = [.int .u8 (r : Int)] := by rw [runeCells, encodeRuneZ_one (by omega) (by omega)]; rfl
    rw [e]
    obtain ⟨i0, hi, hz0, hz1, hz2⟩ := byte_info
    go_enter Tryd.func78, Tryd.ntmps78
    go_wp2_with (at_builtin; refine wpList_append_ownF _ rfl _ _ 128 rfl B 5 i0 (.int .u8 0) 1 1 Tryd.underlying128 hi hz0 hz1 hz2 rfl (by decide) _ _ _ rfl (hown.alloc _) ⟨w.heap.size, 0, none⟩ 1 1 [.int .u8 (r : Int)] rfl rfl ?c1 ?c2 ?c3 ?c4 ?c5 ?_)
    case c1 =>
      intro j u hj
      rcases j with _ | j <;> simp at hj <;> subst hj <;> simp [Addr.add]
    case c2 =>
      intro u hu
      simp only [List.mem_cons, List.not_mem_nil, or_false] at hu
      subst hu
      rfl
    case c3 => unfold maxLen; omega
    case c4 => omega
    case c5 => simp; omega
    intro v' w2 hown' hgrow _
    go_wp2
    go_ret
    exact ⟨_, rfl, hown', _, hgrow⟩
  · have key : Hid (Calls Tryd.prog 84 #[v, .int .i32 (r : Int)] w fun e w' => ∃ v', e = .returned v' ∧ w'.ownsRowF B 5 1 v' (n + (runeCells r).length) (xs ++ runeCells r) ∧ ∃ o, (w.alloc o).grownBy w' v.ownBlock) := by
      show Calls _ _ _ _ _
      by_cases h2 : r ≤ 2047
      · have e : runeCells (r : Int) = [.int .u8 (192 + r / 64), .int .u8 (128 + r % 64)] := by rw [runeCells, encodeRuneZ_two (by omega) (by omega)]; rfl
        rw [e]
        exact rune_two B v n xs r (by omega) (by omega) w hown hlen hBw
      · by_cases h3 : r ≤ 65535
        · have e : runeCells (r : Int) = [.int .u8 (224 + r / 4096), .int .u8 (128 + r / 64 % 64), .int .u8 (128 + r % 64)] := by rw [runeCells, encodeRuneZ_three (by unfold Vr at hr; omega)]; rfl
          rw [e]
          by_cases h4 : r < 55296
          · exact rune_lo B v n xs r (by omega) (by omega) w hown hlen hBw
          · exact rune_hi B v n xs r (by unfold Vr at hr; omega) (by omega) w hown hlen hBw
        · have e : runeCells (r : Int) = [.int .u8 (240 + r / 262144), .int .u8 (128 + r / 4096 % 64), .int .u8 (128 + r / 64 % 64), .int .u8 (128 + r % 64)] := by rw [runeCells, encodeRuneZ_four (by omega) (by unfold Vr at hr; omega)]; rfl
          rw [e]
          exact rune_four B v n xs r (by omega) (by unfold Vr at hr; omega) w hown hlen hBw
    have hr2 : (r : Int) ≤ 1114111 := by unfold Vr at hr; omega
    have hr1 : ¬ (r : Int) ≤ 127 := by omega
    clear hr h1
    go_enter Tryd.func78, Tryd.ntmps78
    go_wp2_with fail
    refine (show Calls Tryd.prog 84 _ _ _ from key.out).mono ?_
    rintro e w2 ⟨v', rfl, g⟩
    go_wp2
    go_ret
    exact ⟨_, rfl, g⟩
set_option maxHeartbeats 4000000 in
set_option maxRecDepth 100000 in
theorem writeRune_any (B b : Nat) (bs : List Value) (r : Nat) (hr : Vr r) (w : World) (h : Bu B b bs w) (hlen : bs.length + 4 ≤ 140737488355328) (hBw : B ≤ w.heap.size) :
    Calls Tryd.prog 71 #[.pointer (some ⟨b, 0, none⟩), .int .i32 (r : Int)] w fun e w' => ∃ q, e = .returned (.tuple #[q, .nilIface]) ∧ Bu B b (bs ++ runeCells r) w' ∧ Kept B b w w' := by
  have hk4 := runeCells_le r
  go_enter Tryd.func71, Tryd.ntmps71
  go_wp2_with fail
  refine (show Calls Tryd.prog 77 _ _ _ from check_any B b bs _ h).mono ?_
  rintro e w1 ⟨rfl, h1, hb1, hk1⟩
  obtain ⟨hB, v, hbk, hown, hne⟩ := h1
  obtain ⟨ao, cap, rfl⟩ : ∃ ao cap, v = .slice ao bs.length cap := by
    rcases hown.2 with ⟨hv, h0⟩ | ⟨g, cap, cur, fz, hv, _⟩
    · exact ⟨none, 0, by rw [hv, h0]⟩
    · exact ⟨_, _, hv⟩
  have c1 : w1.cell? ⟨b, 1, none⟩ = some (.slice ao bs.length cap) := by rw [cell_of_heap hbk]; rfl
  have hs1 := hb1.size
  go_wp2_with fail
  refine (show Calls Tryd.prog 78 _ _ _ from appendRune_any B _ bs.length bs r hr _ hown hlen (by omega)).mono ?_
  rintro e w2 ⟨v', rfl, hown', o, hgrow⟩
  have hlt : b < w1.heap.size := (Array.getElem?_eq_some_iff.1 hbk).1
  have hb2 : w2.heap[b]? = some (.cells #[.pointer (some ⟨b, 0, none⟩), .slice ao bs.length cap] 130 (0, 0)) := by
    rw [hgrow.block b (by simp; omega) (fun e => hne e.symm), alloc_old w1 _ b hlt]
    exact hbk
  have d1 : w2.cell? ⟨b, 1, none⟩ = some (.slice ao bs.length cap) := by rw [cell_of_heap hb2]; rfl
  have f1 : w2.frozen? ⟨b, 1, none⟩ = false := frozen_of_heap hb2 1
  obtain ⟨g, cap', rfl⟩ : ∃ g cap', v' = .slice (some ⟨g, 0, none⟩) (bs.length + (runeCells r).length) cap' := by
    rcases hown'.2 with ⟨_, h0⟩ | ⟨g, cap', cur, fz, hv, _⟩
    · omega
    · exact ⟨g, cap', hv⟩
  go_wp2
  go_ret2
  refine ⟨_, rfl, .inr ?_, ?_, ((hk1.alloc _).grown hgrow (ownsRowF_kind (hown.alloc _))).setCell ⟨b, 1, none⟩ rfl _⟩
  · exact BuilderAtF.put (T := 130) (e := 5) hB hb2 (bs' := bs ++ runeCells r) (by simpa using hown') (by decide)
  · exact ((hb1.alloc (by omega) _).grown hgrow (by simp; omega) (fun k hk => (hown.lt k hk).1)).setCell (p := ⟨b, 1, none⟩) hB _
end Go.Proofs.YtapehdolnljnoaaDoor
