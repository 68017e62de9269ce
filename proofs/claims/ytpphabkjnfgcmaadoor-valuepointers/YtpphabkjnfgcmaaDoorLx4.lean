/- Names: blank, ofName, named, Name. -/
import Derived.Test.YtpphabkjnfgcmaaDoorLx3
namespace Go.Proofs.YtpphabkjnfgcmaaDoor
open Go.RowKit
set_option linter.unusedSimpArgs false
set_option linter.unusedVariables false

def blk (c : Nat) : Bool := c == 9 || c == 10 || c == 13 || c == 32 || c == 160 || c == 12288
set_option maxRecDepth 100000 in
set_option maxHeartbeats 1000000 in
theorem blank_any (c : Nat) (w : World) : Calls Tryd.prog 76 #[.int .i32 (c : Nat)] w fun e w' => e = .returned (.bool (blk c)) ∧ w' = w := by
  by_cases h9 : c = 9
  · subst h9
    rw [show blk 9 = true from rfl]
    go_enter Tryd.func76, Tryd.ntmps76
    go_wp2
    go_ret
    exact ⟨rfl, rfl⟩
  · have i9 : ¬ (c : Int) = 9 := by omega
    by_cases h10 : c = 10
    · subst h10
      rw [show blk 10 = true from rfl]
      go_enter Tryd.func76, Tryd.ntmps76
      go_wp2
      go_ret
      exact ⟨rfl, rfl⟩
    · have i10 : ¬ (c : Int) = 10 := by omega
      by_cases h13 : c = 13
      · subst h13
        rw [show blk 13 = true from rfl]
        go_enter Tryd.func76, Tryd.ntmps76
        go_wp2
        go_ret
        exact ⟨rfl, rfl⟩
      · have i13 : ¬ (c : Int) = 13 := by omega
        by_cases h32 : c = 32
        · subst h32
          rw [show blk 32 = true from rfl]
          go_enter Tryd.func76, Tryd.ntmps76
          go_wp2
          go_ret
          exact ⟨rfl, rfl⟩
        · have i32 : ¬ (c : Int) = 32 := by omega
          by_cases h160 : c = 160
          · subst h160
            rw [show blk 160 = true from rfl]
            go_enter Tryd.func76, Tryd.ntmps76
            go_wp2
            go_ret
            exact ⟨rfl, rfl⟩
          · have i160 : ¬ (c : Int) = 160 := by omega
            by_cases h12288 : c = 12288
            · subst h12288
              rw [show blk 12288 = true from rfl]
              go_enter Tryd.func76, Tryd.ntmps76
              go_wp2
              go_ret
              exact ⟨rfl, rfl⟩
            · have i12288 : ¬ (c : Int) = 12288 := by omega
              rw [show blk c = false by simp [blk, h9, h10, h13, h32, h160, h12288]]
              go_enter Tryd.func76, Tryd.ntmps76
              go_wp2
              go_ret
              exact ⟨rfl, rfl⟩
def ofN (c : Nat) : Bool := !blk c && decide (31 < c) && !(c == 127) && !(c == 65533)
set_option maxRecDepth 100000 in
set_option maxHeartbeats 1000000 in
theorem ofname_any (c : Nat) (w : World) : Calls Tryd.prog 65 #[.int .i32 (c : Nat)] w fun e w' => e = .returned (.bool (ofN c)) ∧ w' = w := by
  have H : Hid (Calls Tryd.prog 76 #[.int .i32 (c : Nat)] w fun e w' => e = .returned (.bool (blk c)) ∧ w' = w) := blank_any c w
  unfold ofN
  cases hb : blk c with
  | true =>
    rw [hb] at H
    simp only [Bool.not_true, Bool.false_and]
    clear hb
    go_enter Tryd.func65, Tryd.ntmps65
    go_wp2_with (go_at_call 76; refine (show Calls Tryd.prog 76 _ _ _ from H.out).mono ?_; rintro e wz ⟨rfl, rfl⟩)
    go_ret
    exact ⟨rfl, rfl⟩
  | false =>
    rw [hb] at H
    simp only [Bool.not_false, Bool.true_and]
    clear hb
    by_cases h1 : 31 < c
    · have i1 : (31 : Int) < (c : Int) := by omega
      by_cases h2 : c = 127
      · subst h2
        have e : (decide (31 < 127) && !(127 == 127) && !((127 : Nat) == 65533)) = false := rfl
        rw [e]
        go_enter Tryd.func65, Tryd.ntmps65
        go_wp2_with (go_at_call 76; refine (show Calls Tryd.prog 76 _ _ _ from H.out).mono ?_; rintro e wz ⟨rfl, rfl⟩)
        go_ret
        exact ⟨rfl, rfl⟩
      · have i2 : ¬ (c : Int) = 127 := by omega
        by_cases h3 : c = 65533
        · subst h3
          have e : (decide (31 < 65533) && !((65533 : Nat) == 127) && !((65533 : Nat) == 65533)) = false := rfl
          rw [e]
          go_enter Tryd.func65, Tryd.ntmps65
          go_wp2_with (go_at_call 76; refine (show Calls Tryd.prog 76 _ _ _ from H.out).mono ?_; rintro e wz ⟨rfl, rfl⟩)
          go_ret
          exact ⟨rfl, rfl⟩
        · have i3 : ¬ (c : Int) = 65533 := by omega
          have e : (decide (31 < c) && !(c == 127) && !(c == 65533)) = true := by simp [h1, h2, h3]
          rw [e]
          have j2 : ((c : Int) != 127) = true := by simpa using i2
          have j3 : ((c : Int) != 65533) = true := by simpa using i3
          go_enter Tryd.func65, Tryd.ntmps65
          go_wp2_with (go_at_call 76; refine (show Calls Tryd.prog 76 _ _ _ from H.out).mono ?_; rintro e wz ⟨rfl, rfl⟩)
          go_ret
          exact ⟨rfl, rfl⟩
    · have i1 : ¬ (31 : Int) < (c : Int) := by omega
      have e : (decide (31 < c) && !(c == 127) && !(c == 65533)) = false := by simp [h1]
      rw [e]
      go_enter Tryd.func65, Tryd.ntmps65
      go_wp2_with (go_at_call 76; refine (show Calls Tryd.prog 76 _ _ _ from H.out).mono ?_; rintro e wz ⟨rfl, rfl⟩)
      go_ret
      exact ⟨rfl, rfl⟩
/-- The characters of a name, of which k have been seen. -/
def nmL : List Nat → Nat → Bool
  | [], k => decide (0 < k)
  | c :: l, k => if 32 < k + 1 ∨ ofN c = false then false else nmL l (k + 1)
def quB : ByteArray := ⟨#[34]⟩
def nmdB (s : ByteArray) : Bool := if s.toList == [33] then false else if preB s quB then false else nmL (rns s) 0
set_option maxRecDepth 100000 in
set_option maxHeartbeats 2000000 in
theorem named_any (s : ByteArray) (w : World) : Calls Tryd.prog 56 #[.string s] w fun e w' => e = .returned (.bool (nmdB s)) ∧ Only (fun _ => False) w w' := by
  have HP : Hid (Calls Tryd.prog 61 #[.string s, .string ⟨#[34]⟩] w fun e w' => e = .returned (.bool (preB s quB)) ∧ w' = w) := hasprefix_any s quB w
  have HO : Hid (∀ w1 (c : Nat), Calls Tryd.prog 65 #[.int .i32 (c : Nat)] w1 fun e w' => e = .returned (.bool (ofN c)) ∧ w' = w1) := fun w1 c => ofname_any c w1
  have O0 : Hid (Only (fun _ => False) w w) := Only.refl _ _
  unfold nmdB
  cases h1 : s.toList == [33] with
  | true =>
    simp only [if_true]
    go_enter Tryd.func56, Tryd.ntmps56
    go_wp2
    go_ret
    exact ⟨rfl, O0.out⟩
  | false =>
    simp only [Bool.false_eq_true, if_false]
    cases h2 : preB s quB with
    | true =>
      rw [h2] at HP
      simp only [if_true]
      go_enter Tryd.func56, Tryd.ntmps56
      go_wp2_with (go_at_call 61; refine (show Calls Tryd.prog 61 _ _ _ from HP.out).mono ?_; rintro e wz ⟨rfl, rfl⟩)
      go_ret
      exact ⟨rfl, O0.out⟩
    | false =>
      rw [h2] at HP
      simp only [Bool.false_eq_true, if_false]
      obtain ⟨Z, hZ⟩ : ∃ Z, Z = nmL (rns s) 0 := ⟨_, rfl⟩
      have HZ : Hid (Z = nmL ((crs s s.size 0).map (·.2)) 0) := hZ
      rw [← hZ]
      clear hZ h2
      go_enter Tryd.func56, Tryd.ntmps56
      go_wp2_with (go_at_call 61; refine (show Calls Tryd.prog 61 _ _ _ from HP.out).mono ?_; rintro e wz ⟨rfl, rfl⟩)
      clear HP h1
      go_loopw [3] (fun k w' => ∃ (m pos b : Nat), w' = wz.iter s pos ∧ k = .int .i64 (m : Nat) ∧ Hid (Z = nmL ((crs s b pos).map (·.2)) m ∧ s.size ≤ pos + b ∧ m ≤ 32)) (fun _ w' => s.size - w'.iterPos wz.heap.size)
      case atStart => exact ⟨0, 0, s.size, rfl, rfl, HZ.out, by omega, by omega⟩
      case round =>
        obtain ⟨m, pos, b, rfl, rfl, HI⟩ := hrel
        clear HZ
        by_cases hp : pos < s.size
        · have hnx : ∀ ty, (Instr.next (.pointer (some ⟨wz.heap.size, 0, none⟩)) true ty).run Tryd.prog (wz.iter s pos) = _ := fun ty => run_next_any wz s pos ty hp
          have hwd := wid_pos s pos hp
          obtain ⟨b', hb', hcr⟩ := crs_go hp HI.out.2.1
          obtain ⟨c, hc⟩ : ∃ c, c = (Utf8.decode s pos).1 := ⟨_, rfl⟩
          obtain ⟨wd, hw⟩ : ∃ c, c = (Utf8.decode s pos).2 := ⟨_, rfl⟩
          rw [← hc, ← hw] at hnx hcr
          rw [← hw] at hwd
          have hm := HI.out.2.2
          have HZ2 : Hid (Z = nmL (c :: (crs s b' (pos + wd)).map (·.2)) m ∧ s.size ≤ pos + wd + b') := ⟨by rw [HI.out.1, hcr]; rfl, by have := HI.out.2.1; omega⟩
          have OI : Hid (Only (fun _ => False) wz (wz.iter s (pos + wd))) := (Only.refl _ wz).iter s _
          have em : IntKind.i64.wrap ((m : Int) + 1) = ((m + 1 : Nat) : Int) := by rw [IntKind.wrap_i64]; omega
          clear HI hc hw hcr hb'
          by_cases hbig : 32 < m + 1
          · have i1 : (32 : Int) < ((m + 1 : Nat) : Int) := by omega
            have HE : Hid (Z = false) := by rw [HZ2.out.1, nmL, if_pos (.inl hbig)]; rfl
            clear HZ2
            go_wp2
            go_ret
            have hz : Z = false := HE.out
            subst hz
            exact ⟨rfl, OI.out⟩
          · have i1 : ¬ (32 : Int) < ((m + 1 : Nat) : Int) := by omega
            have HO1 : Hid (Calls Tryd.prog 65 #[.int .i32 (c : Nat)] (wz.iter s (pos + wd)) fun e w' => e = .returned (.bool (ofN c)) ∧ w' = wz.iter s (pos + wd)) := HO.out _ c
            cases ho : ofN c with
            | false =>
              rw [ho] at HO1
              have HE : Hid (Z = false) := by rw [HZ2.out.1, nmL, if_pos (.inr ho)]; rfl
              clear HZ2 ho
              go_wp2_with (go_at_call 65; refine (show Calls Tryd.prog 65 _ _ _ from HO1.out).mono ?_; rintro e wz ⟨rfl, rfl⟩)
              go_ret
              have hz : Z = false := HE.out
              subst hz
              exact ⟨rfl, OI.out⟩
            | true =>
              rw [ho] at HO1
              have HN : Hid (Z = nmL ((crs s b' (pos + wd)).map (·.2)) (m + 1) ∧ s.size ≤ pos + wd + b' ∧ m + 1 ≤ 32) := ⟨by rw [HZ2.out.1, nmL, if_neg (by rintro (g | g); exact hbig g; rw [ho] at g; cases g)], HZ2.out.2, by omega⟩
              clear HZ2 ho
              go_wp2_with (go_at_call 65; refine (show Calls Tryd.prog 65 _ _ _ from HO1.out).mono ?_; rintro e wz ⟨rfl, rfl⟩)
              go_roundw
              case rel => exact ⟨m + 1, pos + wd, b', rfl, by first | rfl | go_num, HN.out⟩
              case measure => simp; omega
        · have hnx : ∀ ty, (Instr.next (.pointer (some ⟨wz.heap.size, 0, none⟩)) true ty).run Tryd.prog (wz.iter s pos) = _ := fun ty => run_next_end wz s pos ty hp
          have HE : Hid (Z = decide (0 < m)) := by rw [HI.out.1, crs_end hp]; rfl
          have OI : Hid (Only (fun _ => False) wz (wz.iter s pos)) := (Only.refl _ wz).iter s _
          clear HI
          by_cases h0 : 0 < m
          · have i1 : (0 : Int) < (m : Int) := by omega
            go_wp2
            go_ret
            exact ⟨by rw [HE.out]; simp [h0], OI.out⟩
          · have i1 : ¬ (0 : Int) < (m : Int) := by omega
            go_wp2
            go_ret
            exact ⟨by rw [HE.out]; simp [h0], OI.out⟩
def nameB (s : ByteArray) : Bool := decide ((numR s).2 = 9) && nmdB s
set_option maxRecDepth 100000 in
set_option maxHeartbeats 1000000 in
theorem name_any (s : ByteArray) (w : World) (h : Nog w) : Calls Tryd.prog 50 #[.string s] w fun e w' => e = .returned (.bool (nameB s)) ∧ Only (fun _ => False) w w' := by
  have H1 : Hid (Calls Tryd.prog 55 #[.string s] w fun e w' => e = .returned (.tuple #[.int .i64 (numR s).1, .int .i64 (numR s).2]) ∧ Only (fun _ => False) w w') := number_any s w h
  have H2 : Hid (∀ w1, Calls Tryd.prog 56 #[.string s] w1 fun e w' => e = .returned (.bool (nmdB s)) ∧ Only (fun _ => False) w1 w') := fun w1 => named_any s w1
  unfold nameB
  obtain ⟨n, hn⟩ : ∃ x, x = (numR s).1 := ⟨_, rfl⟩
  obtain ⟨k, hk⟩ : ∃ x, x = (numR s).2 := ⟨_, rfl⟩
  obtain ⟨z, hz⟩ : ∃ x, x = nmdB s := ⟨_, rfl⟩
  rw [← hn, ← hk] at H1
  rw [← hk, ← hz]
  rw [← hz] at H2
  clear hn hk hz h
  by_cases h9 : k = 9
  · subst h9
    simp only [decide_true, Bool.true_and]
    go_enter Tryd.func50, Tryd.ntmps50
    go_wp2_with fail
    refine (show Calls Tryd.prog 55 _ _ _ from H1.out).mono ?_
    rintro e w1 ⟨rfl, o1⟩
    have H3 : Hid (Calls Tryd.prog 56 _ _ _) := H2.out w1
    have O1 : Hid (Only (fun _ => False) w w1) := o1
    clear H1 H2 o1
    go_wp2_with fail
    refine (show Calls Tryd.prog 56 _ _ _ from H3.out).mono ?_
    rintro e w2 ⟨rfl, o2⟩
    have O2 : Hid (Only (fun _ => False) w w2) := O1.out.trans o2 (fun _ _ g => g)
    clear H3 o2
    go_wp2
    go_ret
    exact ⟨rfl, O2.out⟩
  · have e : (decide (k = 9) && z) = false := by simp [h9]
    rw [e]
    go_enter Tryd.func50, Tryd.ntmps50
    go_wp2_with fail
    refine (show Calls Tryd.prog 55 _ _ _ from H1.out).mono ?_
    rintro e w1 ⟨rfl, o1⟩
    have O1 : Hid (Only (fun _ => False) w w1) := o1
    clear H1 H2 o1
    go_wp2
    go_ret
    exact ⟨rfl, O1.out⟩
end Go.Proofs.YtpphabkjnfgcmaaDoor
