/- wordEnd, remarked, stray. -/
import Derived.Test.YtbijiigobbjlcaaDoorLx12
namespace Go.Proofs.YtbijiigobbjlcaaDoor
open Go.RowKit
set_option linter.unusedSimpArgs false
set_option linter.unusedVariables false
theorem fndL_le (p : Nat → Bool) (a n : Nat) (S : ByteArray) (h : a + S.size ≤ n) : ∀ (b pos : Nat), fndL p a n (crs S b pos) ≤ n := by
  intro b
  induction b with
  | zero => intro pos; exact Nat.le_refl _
  | succ b ih =>
    intro pos
    by_cases hp : pos < S.size
    · rw [show crs S (b + 1) pos = (pos, (Utf8.decode S pos).1) :: crs S b (pos + (Utf8.decode S pos).2) by simp [crs, hp]]
      unfold fndL
      split
      · omega
      · exact ih _
    · rw [crs_end hp]; exact Nat.le_refl _
theorem fndL_ge (p : Nat → Bool) (a n : Nat) (S : ByteArray) (h : a + S.size ≤ n) : ∀ (b pos : Nat), pos ≤ S.size → a + pos ≤ fndL p a n (crs S b pos) := by
  intro b
  induction b with
  | zero => intro pos hq; show a + pos ≤ n; omega
  | succ b ih =>
    intro pos hq
    by_cases hp : pos < S.size
    · rw [show crs S (b + 1) pos = (pos, (Utf8.decode S pos).1) :: crs S b (pos + (Utf8.decode S pos).2) by simp [crs, hp]]
      unfold fndL
      split
      · exact Nat.le_refl _
      · by_cases hr : pos + (Utf8.decode S pos).2 ≤ S.size
        · have := ih (pos + (Utf8.decode S pos).2) hr
          omega
        · rw [crs_end (by omega)]
          show a + pos ≤ n
          omega
    · rw [crs_end hp]
      show a + pos ≤ n
      omega
theorem fnd_le (p : Nat → Bool) (s : ByteArray) {a : Nat} (ha : a ≤ s.size) : a ≤ fnd p s a ∧ fnd p s a ≤ s.size := by
  have hz : (s.extract a s.size).size = s.size - a := by rw [ByteArray.size_extract]; omega
  exact ⟨fndL_ge p a s.size _ (by omega) _ 0 (by omega), fndL_le p a s.size _ (by omega) _ 0⟩
set_option maxRecDepth 100000 in
theorem wordEnd_any (s : ByteArray) (a : Nat) (ha : a ≤ s.size) (hs : s.size ≤ 1000000) (w : World) : Calls Tryd.prog 50 #[.string s, .int .i64 (a : Int)] w fun e w' => e = .returned (.int .i64 (fnd (fun c => blk c) s a : Nat)) ∧ Only (fun _ => False) w w' := by
  have HC : Hid (Calls Tryd.prog 35 #[.string s, .int .i64 (a : Int), .func (.func 37) #[] #[]] w fun e w' => e = .returned (.int .i64 (fnd (fun c => blk c) s a : Nat)) ∧ Only (fun _ => False) w w') := find_blank s a ha hs w
  obtain ⟨z, hz⟩ : ∃ z, z = fnd (fun c => blk c) s a := ⟨_, rfl⟩
  rw [← hz] at HC ⊢
  clear hz
  go_enter Tryd.func50, Tryd.ntmps50
  go_wp2_with fail
  refine (show Calls Tryd.prog 35 _ _ _ from HC.out).mono ?_
  rintro e wz ⟨rfl, o⟩
  have O : Hid (Only (fun _ => False) w wz) := o
  clear HC o
  go_wp2
  go_ret
  exact ⟨rfl, O.out⟩
def exB : ByteArray := ⟨#[33]⟩
/-- Is the word at a the remark's? -/
def rmk (s : ByteArray) (a : Nat) : Bool := preB (s.extract a s.size) exB && decide (fnd (fun c => blk c) s a = a + 1)
set_option maxRecDepth 100000 in
set_option maxHeartbeats 1000000 in
theorem remarked_any (s : ByteArray) (a : Nat) (ha : a ≤ s.size) (hs : s.size ≤ 1000000) (w : World) : Calls Tryd.prog 38 #[.string s, .int .i64 (a : Int)] w fun e w' => e = .returned (.bool (rmk s a)) ∧ Only (fun _ => False) w w' := by
  obtain ⟨S, hS⟩ : ∃ S, S = s.extract a s.size := ⟨_, rfl⟩
  have hsl : ∀ W : World, (Instr.slice 9 (.string s) (some (.int .i64 (a : Int))) none none).run Tryd.prog W = .ok (.string S) W := fun W => by
    rw [run_slice_string_l W 9 s Tryd.underlying9 _ _ (by omega) (by omega), hS]
    rfl
  have HP : Hid (∀ w1, Calls Tryd.prog 34 #[.string S, .string exB] w1 fun e w' => e = .returned (.bool (preB S exB)) ∧ w' = w1) := fun w1 => hasprefix_any S exB w1
  have HW : Hid (∀ w1, Calls Tryd.prog 50 #[.string s, .int .i64 (a : Int)] w1 fun e w' => e = .returned (.int .i64 (fnd (fun c => blk c) s a : Nat)) ∧ Only (fun _ => False) w1 w') := fun w1 => wordEnd_any s a ha hs w1
  unfold rmk
  rw [← hS]
  obtain ⟨z, hz⟩ : ∃ z, z = fnd (fun c => blk c) s a := ⟨_, rfl⟩
  obtain ⟨b, hb⟩ : ∃ b, b = preB S exB := ⟨_, rfl⟩
  rw [← hz] at HW ⊢
  rw [← hb] at HP ⊢
  clear hz hb hS
  cases b with
  | false =>
    go_enter Tryd.func38, Tryd.ntmps38
    go_wp2_with fail
    refine (show Calls Tryd.prog 34 _ _ _ from HP.out _).mono ?_
    rintro e wz ⟨rfl, rfl⟩
    clear HP HW
    go_wp2
    go_ret
    exact ⟨rfl, Only.refl _ _⟩
  | true =>
    have e1 : decide (z = a + 1) = ((z : Int) == (a : Int) + 1) := by
      by_cases g : z = a + 1
      · subst g; simp
      · have : ¬ (z : Int) = (a : Int) + 1 := by omega
        simp [g, this]
    rw [Bool.true_and, e1]
    clear e1
    go_enter Tryd.func38, Tryd.ntmps38
    go_wp2_with fail
    refine (show Calls Tryd.prog 34 _ _ _ from HP.out _).mono ?_
    rintro e wz ⟨rfl, rfl⟩
    clear HP
    go_wp2_with fail
    refine (show Calls Tryd.prog 50 _ _ _ from HW.out _).mono ?_
    rintro e wy ⟨rfl, o⟩
    have O : Hid (Only (fun _ => False) wz wy) := o
    clear HW o
    go_wp2
    go_ret
    exact ⟨rfl, O.out⟩
end Go.Proofs.YtbijiigobbjlcaaDoor
