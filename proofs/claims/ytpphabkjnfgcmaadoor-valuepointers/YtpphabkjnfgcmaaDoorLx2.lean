/- The digits of a text: natural. -/
import Derived.Test.YtpphabkjnfgcmaaDoorLx1
import Derived.Laws.RangeAny
import Derived.LoopTactic
namespace Go.Proofs.YtpphabkjnfgcmaaDoor
open Go.RowKit
set_option linter.unusedSimpArgs false
set_option linter.unusedVariables false

/-- The characters of a text from a place on: places and runes. -/
def crs (s : ByteArray) : Nat → Nat → List (Nat × Nat)
  | 0, _ => []
  | b + 1, pos => if pos < s.size then (pos, (Utf8.decode s pos).1) :: crs s b (pos + (Utf8.decode s pos).2) else []
def chs (s : ByteArray) : List (Nat × Nat) := crs s s.size 0
def rns (s : ByteArray) : List Nat := (chs s).map (·.2)
theorem wid_pos (s : ByteArray) (pos : Nat) (h : pos < s.size) : 1 ≤ (Utf8.decode s pos).2 := by
  by_cases ha : (s[pos]'h).toNat < 128
  · rw [decode_ascii s pos h ha]
    exact Nat.le_refl _
  · exact (decode_high s pos h (by omega)).2
theorem crs_end {s : ByteArray} {b pos : Nat} (h : ¬ pos < s.size) : crs s b pos = [] := by
  cases b with
  | zero => rfl
  | succ b => simp [crs, h]
theorem crs_go {s : ByteArray} {b pos : Nat} (h : pos < s.size) (hb : s.size ≤ pos + b) : ∃ b', b = b' + 1 ∧ crs s b pos = (pos, (Utf8.decode s pos).1) :: crs s b' (pos + (Utf8.decode s pos).2) := by
  cases b with
  | zero => omega
  | succ b => exact ⟨b, rfl, by simp [crs, h]⟩
theorem Only.iter {bs : Nat → Prop} {a w : World} (h : Only bs a w) (s : ByteArray) (pos : Nat) : Only bs a (w.iter s pos) := h.alloc _
/-- A digit more. -/
def dig (n : Nat) (c : Nat) (nt : Int) : Nat := if n ≤ 1152921504606846976 then n * 10 + ((c : Int) - nt).toNat else n
def natL : List Nat → Int → Bool → Nat → Nat × Bool
  | [], _, ok, n => (n, ok)
  | c :: l, nt, true, n => if inS c nt then natL l nt true (dig n c nt) else (0, false)
  | c :: l, nt, false, n => match scr c with
    | none => (0, false)
    | some nt' => natL l nt' true (dig n c nt')
theorem scr_some {c nt : Int} (h : scr c = some nt) : inS c nt = true ∧ 48 ≤ nt ∧ nt ≤ 65296 := by
  unfold scr at h
  split at h
  · cases h; exact ⟨‹_›, by omega, by omega⟩
  · split at h
    · cases h; exact ⟨‹_›, by omega, by omega⟩
    · split at h
      · cases h; exact ⟨‹_›, by omega, by omega⟩
      · cases h
theorem dig_le {n c : Nat} {nt : Int} (hn : n ≤ 11529215046068469769) (h : inS c nt = true) : dig n c nt ≤ 11529215046068469769 := by
  simp only [inS, decide_eq_true_eq] at h
  unfold dig
  split <;> omega
set_option maxRecDepth 100000 in
set_option maxHeartbeats 2000000 in
theorem natural_any (s : ByteArray) (w : World) (h : Nog w) :
    Calls Tryd.prog 64 #[.string s] w fun e w' => e = .returned (.tuple #[.int .u64 ((natL (rns s) 0 false 0).1 : Nat), .bool (natL (rns s) 0 false 0).2]) ∧ Only (fun _ => False) w w' := by
  have HSc : Hid (∀ w1 c, Only (fun _ => False) w w1 → Calls Tryd.prog 74 #[.int .i32 c] w1 fun e w' => e = .returned (scrV (scr c)) ∧ w' = w1) := fun w1 c ho => script_any c w1 (h.frame ho)
  have HIn : Hid (∀ w1 c nt, -2147483648 ≤ nt → nt ≤ 2147483638 → Calls Tryd.prog 75 #[.int .i32 c, .int .i32 nt] w1 fun e w' => e = .returned (.bool (inS c nt)) ∧ w' = w1) := fun w1 c nt h1 h2 => inscript_any c nt w1 h1 h2
  obtain ⟨Z, hZ⟩ : ∃ Z, Z = natL (rns s) 0 false 0 := ⟨_, rfl⟩
  have HZ : Hid (Z = natL ((crs s s.size 0).map (·.2)) 0 false 0) := hZ
  rw [← hZ]
  clear hZ h
  go_enter Tryd.func64, Tryd.ntmps64
  go_wp2
  go_loopw [2, 3, 4] (fun n ok nt w' => ∃ (m pos b : Nat) (k : Bool) (t : Int), w' = w.iter s pos ∧ n = .int .u64 (m : Nat) ∧ ok = .bool k ∧ nt = .int .i32 t ∧ Hid (Z = natL ((crs s b pos).map (·.2)) t k m ∧ s.size ≤ pos + b ∧ m ≤ 11529215046068469769 ∧ 0 ≤ t ∧ t ≤ 65296)) (fun _ _ _ w' => s.size - w'.iterPos w.heap.size)
  case atStart => exact ⟨0, 0, s.size, false, 0, rfl, rfl, rfl, rfl, HZ.out, by omega, by omega, by omega, by omega⟩
  case round =>
    obtain ⟨m, pos, b, k, t, rfl, rfl, rfl, rfl, HI⟩ := hrel
    clear HZ
    by_cases hp : pos < s.size
    · have hnx : ∀ ty, (Instr.next (.pointer (some ⟨w.heap.size, 0, none⟩)) true ty).run Tryd.prog (w.iter s pos) = _ := fun ty => run_next_any w s pos ty hp
      have hwd := wid_pos s pos hp
      obtain ⟨b', hb', hcr⟩ := crs_go hp HI.out.2.1
      have hdl := decode_le s pos
      obtain ⟨c, hc⟩ : ∃ c, c = (Utf8.decode s pos).1 := ⟨_, rfl⟩
      obtain ⟨wd, hw⟩ : ∃ c, c = (Utf8.decode s pos).2 := ⟨_, rfl⟩
      rw [← hc, ← hw] at hnx hcr
      rw [← hc] at hdl
      rw [← hw] at hwd
      have hm := HI.out.2.2.1
      have ht0 := HI.out.2.2.2.1
      have ht1 := HI.out.2.2.2.2
      have HZ2 : Hid (Z = natL (c :: (crs s b' (pos + wd)).map (·.2)) t k m ∧ s.size ≤ pos + wd + b') := ⟨by rw [HI.out.1, hcr]; rfl, by have := HI.out.2.1; omega⟩
      clear HI hc hw hcr hb'
      have OI : Hid (Only (fun _ => False) w (w.iter s (pos + wd))) := (Only.refl _ w).iter s _
      cases k with
      | true =>
        have HI1 : Hid (Calls Tryd.prog 75 #[.int .i32 (c : Nat), .int .i32 t] (w.iter s (pos + wd)) fun e w' => e = .returned (.bool (inS c t)) ∧ w' = w.iter s (pos + wd)) := HIn.out _ _ _ (by omega) (by omega)
        cases hin : inS c t with
        | true =>
          rw [hin] at HI1
          have hin2 := hin
          simp only [inS, decide_eq_true_eq] at hin2
          obtain ⟨j1, j2⟩ := hin2
          have HN : Hid (Z = natL ((crs s b' (pos + wd)).map (·.2)) t true (dig m c t) ∧ s.size ≤ pos + wd + b' ∧ dig m c t ≤ 11529215046068469769 ∧ 0 ≤ t ∧ t ≤ 65296) := ⟨by rw [HZ2.out.1, natL, if_pos hin], HZ2.out.2, dig_le hm hin, ht0, ht1⟩
          clear hin HZ2
          by_cases hbig : m ≤ 1152921504606846976
          · have i1 : (m : Int) ≤ 1152921504606846976 := by omega
            have e1 : IntKind.u64.wrap ((m : Int) * 10) = ((m * 10 : Nat) : Int) := by rw [IntKind.wrap_u64]; omega
            have e2 : IntKind.i32.wrap ((c : Int) - t) = (c : Int) - t := by rw [IntKind.wrap_i32]; omega
            have e3 : IntKind.u64.wrap ((c : Int) - t) = (c : Int) - t := by rw [IntKind.wrap_u64]; omega
            have e4 : IntKind.u64.wrap (((m * 10 : Nat) : Int) + ((c : Int) - t)) = ((dig m c t : Nat) : Int) := by
              unfold dig
              rw [if_pos hbig, IntKind.wrap_u64]
              omega
            go_wp2_with (go_at_call 75; refine (show Calls Tryd.prog 75 _ _ _ from HI1.out).mono ?_; rintro e wz ⟨rfl, rfl⟩)
            go_roundw
            case rel => exact ⟨dig m c t, pos + wd, b', true, t, rfl, congrArg (Value.int .u64) (by unfold dig; rw [if_pos hbig]; omega), rfl, rfl, HN.out⟩
            case measure => simp; omega
          · have i1 : ¬ (m : Int) ≤ 1152921504606846976 := by omega
            have e4 : dig m c t = m := if_neg hbig
            rw [e4] at HN
            go_wp2_with (go_at_call 75; refine (show Calls Tryd.prog 75 _ _ _ from HI1.out).mono ?_; rintro e wz ⟨rfl, rfl⟩)
            go_roundw
            case rel => exact ⟨m, pos + wd, b', true, t, rfl, rfl, rfl, rfl, HN.out⟩
            case measure => simp; omega
        | false =>
          rw [hin] at HI1
          have HE : Hid (Z = (0, false)) := by rw [HZ2.out.1, natL, if_neg (by simp [hin])]; rfl
          clear hin HZ2
          go_wp2_with (go_at_call 75; refine (show Calls Tryd.prog 75 _ _ _ from HI1.out).mono ?_; rintro e wz ⟨rfl, rfl⟩)
          go_ret2
          have hz : Z = (0, false) := HE.out
          subst hz
          exact ⟨rfl, OI.out⟩
      | false =>
        have HS1 : Hid (Calls Tryd.prog 74 #[.int .i32 (c : Nat)] (w.iter s (pos + wd)) fun e w' => e = .returned (scrV (scr c)) ∧ w' = w.iter s (pos + wd)) := HSc.out _ _ OI.out
        cases hsc : scr c with
        | none =>
          rw [hsc] at HS1
          simp only [scrV] at HS1
          have HE : Hid (Z = (0, false)) := by rw [HZ2.out.1, natL, hsc]; rfl
          clear hsc HZ2
          go_wp2_with (go_at_call 74; refine (show Calls Tryd.prog 74 _ _ _ from HS1.out).mono ?_; rintro e wz ⟨rfl, rfl⟩)
          go_ret2
          have hz : Z = (0, false) := HE.out
          subst hz
          exact ⟨rfl, OI.out⟩
        | some nt =>
          rw [hsc] at HS1
          simp only [scrV] at HS1
          obtain ⟨hin, q1, q2⟩ := scr_some hsc
          have HI1 : Hid (Calls Tryd.prog 75 #[.int .i32 (c : Nat), .int .i32 nt] (w.iter s (pos + wd)) fun e w' => e = .returned (.bool (inS c nt)) ∧ w' = w.iter s (pos + wd)) := HIn.out _ _ _ (by omega) (by omega)
          rw [hin] at HI1
          have hin2 := hin
          simp only [inS, decide_eq_true_eq] at hin2
          obtain ⟨j1, j2⟩ := hin2
          have HN : Hid (Z = natL ((crs s b' (pos + wd)).map (·.2)) nt true (dig m c nt) ∧ s.size ≤ pos + wd + b' ∧ dig m c nt ≤ 11529215046068469769 ∧ 0 ≤ nt ∧ nt ≤ 65296) := ⟨by rw [HZ2.out.1, natL, hsc], HZ2.out.2, dig_le hm hin, by omega, q2⟩
          clear hin hsc HZ2
          by_cases hbig : m ≤ 1152921504606846976
          · have i1 : (m : Int) ≤ 1152921504606846976 := by omega
            have e1 : IntKind.u64.wrap ((m : Int) * 10) = ((m * 10 : Nat) : Int) := by rw [IntKind.wrap_u64]; omega
            have e2 : IntKind.i32.wrap ((c : Int) - nt) = (c : Int) - nt := by rw [IntKind.wrap_i32]; omega
            have e3 : IntKind.u64.wrap ((c : Int) - nt) = (c : Int) - nt := by rw [IntKind.wrap_u64]; omega
            have e4 : IntKind.u64.wrap (((m * 10 : Nat) : Int) + ((c : Int) - nt)) = ((dig m c nt : Nat) : Int) := by
              unfold dig
              rw [if_pos hbig, IntKind.wrap_u64]
              omega
            go_wp2_with (first | (go_at_call 74; refine (show Calls Tryd.prog 74 _ _ _ from HS1.out).mono ?_; rintro e wz ⟨rfl, rfl⟩) | (go_at_call 75; refine (show Calls Tryd.prog 75 _ _ _ from HI1.out).mono ?_; rintro e wz ⟨rfl, rfl⟩))
            go_roundw
            case rel => exact ⟨dig m c nt, pos + wd, b', true, nt, rfl, congrArg (Value.int .u64) (by unfold dig; rw [if_pos hbig]; omega), rfl, rfl, HN.out⟩
            case measure => simp; omega
          · have i1 : ¬ (m : Int) ≤ 1152921504606846976 := by omega
            have e4 : dig m c nt = m := if_neg hbig
            rw [e4] at HN
            go_wp2_with (first | (go_at_call 74; refine (show Calls Tryd.prog 74 _ _ _ from HS1.out).mono ?_; rintro e wz ⟨rfl, rfl⟩) | (go_at_call 75; refine (show Calls Tryd.prog 75 _ _ _ from HI1.out).mono ?_; rintro e wz ⟨rfl, rfl⟩))
            go_roundw
            case rel => exact ⟨m, pos + wd, b', true, nt, rfl, rfl, rfl, rfl, HN.out⟩
            case measure => simp; omega
    · have hnx : ∀ ty, (Instr.next (.pointer (some ⟨w.heap.size, 0, none⟩)) true ty).run Tryd.prog (w.iter s pos) = _ := fun ty => run_next_end w s pos ty hp
      have HE : Hid (Z = (m, k)) := by rw [HI.out.1, crs_end hp]; rfl
      clear HI
      go_wp2
      go_ret2
      have hz : Z = (m, k) := HE.out
      subst hz
      exact ⟨rfl, (Only.refl _ w).iter s pos⟩
end Go.Proofs.YtpphabkjnfgcmaaDoor
