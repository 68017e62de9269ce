/- The digits of a script: inScript, script. The digits of a text: natural. A sign cut off; the number of a word. -/
import Derived.Test.YthlloenonjagbaaGreatDoorGab
import Derived.Test.YthlloenonjagbaaGreatDoorRows
import Derived.Test.YthlloenonjagbaaGreatDoorGaa
import Derived.WalkKit
import Derived.WalkSpells
import Derived.WalkLawsBesides
import Derived.OpenShut
import Derived.Laws.RangeAny
import Derived.LoopTactic
namespace Go.Proofs.YthlloenonjagbaaGreatDoor
open Go.RowKit
set_option linter.unusedSimpArgs false
set_option linter.unusedVariables false

def inS (c nt : Int) : Bool := decide (nt ≤ c ∧ c ≤ nt + 9)
set_option maxRecDepth 100000 in
theorem inscript_any (c nt : Int) (w : World) (h1 : -2147483648 ≤ nt) (h2 : nt ≤ 2147483638) :
    Calls Tryz.prog 149 #[.int .i32 c, .int .i32 nt] w fun e w' => e = .returned (.bool (inS c nt)) ∧ w' = w := by
  have e : IntKind.i32.wrap (nt + 9) = nt + 9 := by rw [IntKind.wrap_i32]; omega
  by_cases a : nt ≤ c
  · by_cases b : c ≤ nt + 9
    · have hv : inS c nt = true := by simp [inS, a, b]
      rw [hv]
      go_enter Tryz.func149, Tryz.ntmps149
      go_wp2
      go_ret
      exact ⟨rfl, rfl⟩
    · have hv : inS c nt = false := by simp [inS, b]
      rw [hv]
      go_enter Tryz.func149, Tryz.ntmps149
      go_wp2
      go_ret
      exact ⟨rfl, rfl⟩
  · have hv : inS c nt = false := by simp [inS, a]
    rw [hv]
    go_enter Tryz.func149, Tryz.ntmps149
    go_wp2
    go_ret
    exact ⟨rfl, rfl⟩
/-- The nought of the script of a digit. -/
def scr (c : Int) : Option Int := if inS c 48 then some 48 else if inS c 1632 then some 1632 else if inS c 65296 then some 65296 else none
theorem ix0 (w : World) : (Instr.index 243 (.agg #[.int .i32 48, .int .i32 1632, .int .i32 65296]) (.int .i64 0)).run Tryz.prog w = .ok (.int .i32 48) w := by kernel_rfl
theorem ix1 (w : World) : (Instr.index 243 (.agg #[.int .i32 48, .int .i32 1632, .int .i32 65296]) (.int .i64 1)).run Tryz.prog w = .ok (.int .i32 1632) w := by kernel_rfl
theorem ix2 (w : World) : (Instr.index 243 (.agg #[.int .i32 48, .int .i32 1632, .int .i32 65296]) (.int .i64 2)).run Tryz.prog w = .ok (.int .i32 65296) w := by kernel_rfl
/-- What the package's digits hold. -/
def Nog (w : World) : Prop := w.cell? ⟨4, 0, none⟩ = some (.int .i32 48) ∧ w.cell? ⟨4, 1, none⟩ = some (.int .i32 1632) ∧ w.cell? ⟨4, 2, none⟩ = some (.int .i32 65296)
theorem Nog.frame {w w' : World} (h : Nog w) (ho : Only (fun _ => False) w w') : Nog w' := ⟨ho.cell h.1 (fun g => g), ho.cell h.2.1 (fun g => g), ho.cell h.2.2 (fun g => g)⟩
def scrV (o : Option Int) : Value := match o with
  | some nt => .tuple #[.int .i32 nt, .bool true]
  | none => .tuple #[.int .i32 0, .bool false]
set_option maxRecDepth 100000 in
set_option maxHeartbeats 1000000 in
theorem script_any (c : Int) (w : World) (h : Nog w) :
    Calls Tryz.prog 148 #[.int .i32 c] w fun e w' => e = .returned (scrV (scr c)) ∧ w' = w := by
  obtain ⟨g0, g1, g2⟩ := h
  have H48 : Hid (Calls Tryz.prog 149 #[.int .i32 c, .int .i32 48] w fun e w' => e = .returned (.bool (inS c 48)) ∧ w' = w) := inscript_any c 48 w (by omega) (by omega)
  have H16 : Hid (Calls Tryz.prog 149 #[.int .i32 c, .int .i32 1632] w fun e w' => e = .returned (.bool (inS c 1632)) ∧ w' = w) := inscript_any c 1632 w (by omega) (by omega)
  have H65 : Hid (Calls Tryz.prog 149 #[.int .i32 c, .int .i32 65296] w fun e w' => e = .returned (.bool (inS c 65296)) ∧ w' = w) := inscript_any c 65296 w (by omega) (by omega)
  have HS : Hid (scr c = if inS c 48 then some 48 else if inS c 1632 then some 1632 else if inS c 65296 then some 65296 else none) := rfl
  obtain ⟨Y, hY⟩ : ∃ Y, Y = scr c := ⟨_, rfl⟩
  rw [← hY] at HS ⊢
  obtain ⟨b1, hb1⟩ : ∃ b, b = inS c 48 := ⟨_, rfl⟩
  obtain ⟨b2, hb2⟩ : ∃ b, b = inS c 1632 := ⟨_, rfl⟩
  obtain ⟨b3, hb3⟩ : ∃ b, b = inS c 65296 := ⟨_, rfl⟩
  rw [← hb1] at H48 HS
  rw [← hb2] at H16 HS
  rw [← hb3] at H65 HS
  clear hY hb1 hb2 hb3
  have i0 := ix0 w
  have i1 := ix1 w
  have i2 := ix2 w
  go_enter Tryz.func148, Tryz.ntmps148
  go_wp2
  go_loopw [7] (fun t wr => ∃ r : Int, t = .int .i64 r ∧ (r = 0 ∨ (r = 1 ∧ b1 = false) ∨ (r = 2 ∧ b1 = false ∧ b2 = false) ∨ (r = 3 ∧ b1 = false ∧ b2 = false ∧ b3 = false)) ∧ w = wr) (fun t _ => 3 - (intOf t).toNat)
  case atStart => exact ⟨0, rfl, .inl rfl, rfl⟩
  case round =>
    obtain ⟨r, rfl, hr, rfl⟩ := hrel
    rcases hr with rfl | ⟨rfl, rfl⟩ | ⟨rfl, rfl, rfl⟩ | ⟨rfl, rfl, rfl, rfl⟩
    · cases b1 with
      | true =>
        go_wp2_with (go_at_call 149; refine (show Calls Tryz.prog 149 _ _ _ from H48.out).mono ?_; rintro e wz ⟨rfl, rfl⟩)
        go_ret2
        exact ⟨by rw [HS.out]; rfl, rfl⟩
      | false =>
        go_wp2_with (go_at_call 149; refine (show Calls Tryz.prog 149 _ _ _ from H48.out).mono ?_; rintro e wz ⟨rfl, rfl⟩)
        go_roundw
        case rel => exact ⟨1, rfl, by simp, by first | trivial | rfl⟩
        case measure => simp [intOf]
    · cases b2 with
      | true =>
        go_wp2_with (go_at_call 149; refine (show Calls Tryz.prog 149 _ _ _ from H16.out).mono ?_; rintro e wz ⟨rfl, rfl⟩)
        go_ret2
        exact ⟨by rw [HS.out]; rfl, rfl⟩
      | false =>
        go_wp2_with (go_at_call 149; refine (show Calls Tryz.prog 149 _ _ _ from H16.out).mono ?_; rintro e wz ⟨rfl, rfl⟩)
        go_roundw
        case rel => exact ⟨2, rfl, by simp, by first | trivial | rfl⟩
        case measure => simp [intOf]
    · cases b3 with
      | true =>
        go_wp2_with (go_at_call 149; refine (show Calls Tryz.prog 149 _ _ _ from H65.out).mono ?_; rintro e wz ⟨rfl, rfl⟩)
        go_ret2
        exact ⟨by rw [HS.out]; rfl, rfl⟩
      | false =>
        go_wp2_with (go_at_call 149; refine (show Calls Tryz.prog 149 _ _ _ from H65.out).mono ?_; rintro e wz ⟨rfl, rfl⟩)
        go_roundw
        case rel => exact ⟨3, rfl, by simp, by first | trivial | rfl⟩
        case measure => simp [intOf]
    · go_wp2
      go_ret2
      exact ⟨by rw [HS.out]; rfl, rfl⟩
end Go.Proofs.YthlloenonjagbaaGreatDoor
namespace Go.Proofs.YthlloenonjagbaaGreatDoor
open Go.RowKit
set_option linter.unusedSimpArgs false
set_option linter.unusedVariables false

/-- The characters of a text from a place on: places and runes. -/
def crs (s : ByteArray) : Nat → Nat → List (Nat × Nat)
  | 0, _ => []
  | b + 1, pos => if pos < s.size then (pos, (Utf8.decode s pos).1) :: crs s b (pos + (Utf8.decode s pos).2) else []
def chs (s : ByteArray) : List (Nat × Nat) := crs s s.size 0
def rns (s : ByteArray) : List Nat := (chs s).map (·.2)
theorem wid_pos (s : ByteArray) (pos : Nat) (h : pos < s.size) : 1 ≤ (Utf8.decode s pos).2 := by
  by_cases ha : (s[pos]'h).toNat < 128
  · rw [decode_ascii s pos h ha]
    exact Nat.le_refl _
  · exact (decode_high s pos h (by omega)).2
theorem crs_end {s : ByteArray} {b pos : Nat} (h : ¬ pos < s.size) : crs s b pos = [] := by
  cases b with
  | zero => rfl
  | succ b => simp [crs, h]
theorem crs_go {s : ByteArray} {b pos : Nat} (h : pos < s.size) (hb : s.size ≤ pos + b) : ∃ b', b = b' + 1 ∧ crs s b pos = (pos, (Utf8.decode s pos).1) :: crs s b' (pos + (Utf8.decode s pos).2) := by
  cases b with
  | zero => omega
  | succ b => exact ⟨b, rfl, by simp [crs, h]⟩
theorem Only.iter {bs : Nat → Prop} {a w : World} (h : Only bs a w) (s : ByteArray) (pos : Nat) : Only bs a (w.iter s pos) := h.alloc _
/-- A digit more. -/
def dig (n : Nat) (c : Nat) (nt : Int) : Nat := if n ≤ 1152921504606846976 then n * 10 + ((c : Int) - nt).toNat else n
def natL : List Nat → Int → Bool → Nat → Nat × Bool
  | [], _, ok, n => (n, ok)
  | c :: l, nt, true, n => if inS c nt then natL l nt true (dig n c nt) else (0, false)
  | c :: l, nt, false, n => match scr c with
    | none => (0, false)
    | some nt' => natL l nt' true (dig n c nt')
theorem scr_some {c nt : Int} (h : scr c = some nt) : inS c nt = true ∧ 48 ≤ nt ∧ nt ≤ 65296 := by
  unfold scr at h
  split at h
  · cases h; exact ⟨‹_›, by omega, by omega⟩
  · split at h
    · cases h; exact ⟨‹_›, by omega, by omega⟩
    · split at h
      · cases h; exact ⟨‹_›, by omega, by omega⟩
      · cases h
theorem dig_le {n c : Nat} {nt : Int} (hn : n ≤ 11529215046068469769) (h : inS c nt = true) : dig n c nt ≤ 11529215046068469769 := by
  simp only [inS, decide_eq_true_eq] at h
  unfold dig
  split <;> omega
set_option maxRecDepth 100000 in
set_option maxHeartbeats 2000000 in
theorem natural_any (s : ByteArray) (w : World) (h : Nog w) :
    Calls Tryz.prog 138 #[.string s] w fun e w' => e = .returned (.tuple #[.int .u64 ((natL (rns s) 0 false 0).1 : Nat), .bool (natL (rns s) 0 false 0).2]) ∧ Only (fun _ => False) w w' := by
  have HSc : Hid (∀ w1 c, Only (fun _ => False) w w1 → Calls Tryz.prog 148 #[.int .i32 c] w1 fun e w' => e = .returned (scrV (scr c)) ∧ w' = w1) := fun w1 c ho => script_any c w1 (h.frame ho)
  have HIn : Hid (∀ w1 c nt, -2147483648 ≤ nt → nt ≤ 2147483638 → Calls Tryz.prog 149 #[.int .i32 c, .int .i32 nt] w1 fun e w' => e = .returned (.bool (inS c nt)) ∧ w' = w1) := fun w1 c nt h1 h2 => inscript_any c nt w1 h1 h2
  obtain ⟨Z, hZ⟩ : ∃ Z, Z = natL (rns s) 0 false 0 := ⟨_, rfl⟩
  have HZ : Hid (Z = natL ((crs s s.size 0).map (·.2)) 0 false 0) := hZ
  rw [← hZ]
  clear hZ h
  go_enter Tryz.func138, Tryz.ntmps138
  go_wp2
  go_loopw [2, 3, 4] (fun n ok nt w' => ∃ (m pos b : Nat) (k : Bool) (t : Int), w' = w.iter s pos ∧ n = .int .u64 (m : Nat) ∧ ok = .bool k ∧ nt = .int .i32 t ∧ Hid (Z = natL ((crs s b pos).map (·.2)) t k m ∧ s.size ≤ pos + b ∧ m ≤ 11529215046068469769 ∧ 0 ≤ t ∧ t ≤ 65296)) (fun _ _ _ w' => s.size - w'.iterPos w.heap.size)
  case atStart => exact ⟨0, 0, s.size, false, 0, rfl, rfl, rfl, rfl, HZ.out, by omega, by omega, by omega, by omega⟩
  case round =>
    obtain ⟨m, pos, b, k, t, rfl, rfl, rfl, rfl, HI⟩ := hrel
    clear HZ
    by_cases hp : pos < s.size
    · have hnx : ∀ ty, (Instr.next (.pointer (some ⟨w.heap.size, 0, none⟩)) true ty).run Tryz.prog (w.iter s pos) = _ := fun ty => run_next_any w s pos ty hp
      have hwd := wid_pos s pos hp
      obtain ⟨b', hb', hcr⟩ := crs_go hp HI.out.2.1
      have hdl := decode_le s pos
      obtain ⟨c, hc⟩ : ∃ c, c = (Utf8.decode s pos).1 := ⟨_, rfl⟩
      obtain ⟨wd, hw⟩ : ∃ c, c = (Utf8.decode s pos).2 := ⟨_, rfl⟩
      rw [← hc, ← hw] at hnx hcr
      rw [← hc] at hdl
      rw [← hw] at hwd
      have hm := HI.out.2.2.1
      have ht0 := HI.out.2.2.2.1
      have ht1 := HI.out.2.2.2.2
      have HZ2 : Hid (Z = natL (c :: (crs s b' (pos + wd)).map (·.2)) t k m ∧ s.size ≤ pos + wd + b') := ⟨by rw [HI.out.1, hcr]; rfl, by have := HI.out.2.1; omega⟩
      clear HI hc hw hcr hb'
      have OI : Hid (Only (fun _ => False) w (w.iter s (pos + wd))) := (Only.refl _ w).iter s _
      cases k with
      | true =>
        have HI1 : Hid (Calls Tryz.prog 149 #[.int .i32 (c : Nat), .int .i32 t] (w.iter s (pos + wd)) fun e w' => e = .returned (.bool (inS c t)) ∧ w' = w.iter s (pos + wd)) := HIn.out _ _ _ (by omega) (by omega)
        cases hin : inS c t with
        | true =>
          rw [hin] at HI1
          have hin2 := hin
          simp only [inS, decide_eq_true_eq] at hin2
          obtain ⟨j1, j2⟩ := hin2
          have HN : Hid (Z = natL ((crs s b' (pos + wd)).map (·.2)) t true (dig m c t) ∧ s.size ≤ pos + wd + b' ∧ dig m c t ≤ 11529215046068469769 ∧ 0 ≤ t ∧ t ≤ 65296) := ⟨by rw [HZ2.out.1, natL, if_pos hin], HZ2.out.2, dig_le hm hin, ht0, ht1⟩
          clear hin HZ2
          by_cases hbig : m ≤ 1152921504606846976
          · have i1 : (m : Int) ≤ 1152921504606846976 := by omega
            have e1 : IntKind.u64.wrap ((m : Int) * 10) = ((m * 10 : Nat) : Int) := by rw [IntKind.wrap_u64]; omega
            have e2 : IntKind.i32.wrap ((c : Int) - t) = (c : Int) - t := by rw [IntKind.wrap_i32]; omega
            have e3 : IntKind.u64.wrap ((c : Int) - t) = (c : Int) - t := by rw [IntKind.wrap_u64]; omega
            have e4 : IntKind.u64.wrap (((m * 10 : Nat) : Int) + ((c : Int) - t)) = ((dig m c t : Nat) : Int) := by
              unfold dig
              rw [if_pos hbig, IntKind.wrap_u64]
              omega
            go_wp2_with (go_at_call 149; refine (show Calls Tryz.prog 149 _ _ _ from HI1.out).mono ?_; rintro e wz ⟨rfl, rfl⟩)
            go_roundw
            case rel => exact ⟨dig m c t, pos + wd, b', true, t, rfl, congrArg (Value.int .u64) (by unfold dig; rw [if_pos hbig]; omega), rfl, rfl, HN.out⟩
            case measure => simp; omega
          · have i1 : ¬ (m : Int) ≤ 1152921504606846976 := by omega
            have e4 : dig m c t = m := if_neg hbig
            rw [e4] at HN
            go_wp2_with (go_at_call 149; refine (show Calls Tryz.prog 149 _ _ _ from HI1.out).mono ?_; rintro e wz ⟨rfl, rfl⟩)
            go_roundw
            case rel => exact ⟨m, pos + wd, b', true, t, rfl, rfl, rfl, rfl, HN.out⟩
            case measure => simp; omega
        | false =>
          rw [hin] at HI1
          have HE : Hid (Z = (0, false)) := by rw [HZ2.out.1, natL, if_neg (by simp [hin])]; rfl
          clear hin HZ2
          go_wp2_with (go_at_call 149; refine (show Calls Tryz.prog 149 _ _ _ from HI1.out).mono ?_; rintro e wz ⟨rfl, rfl⟩)
          go_ret2
          have hz : Z = (0, false) := HE.out
          subst hz
          exact ⟨rfl, OI.out⟩
      | false =>
        have HS1 : Hid (Calls Tryz.prog 148 #[.int .i32 (c : Nat)] (w.iter s (pos + wd)) fun e w' => e = .returned (scrV (scr c)) ∧ w' = w.iter s (pos + wd)) := HSc.out _ _ OI.out
        cases hsc : scr c with
        | none =>
          rw [hsc] at HS1
          simp only [scrV] at HS1
          have HE : Hid (Z = (0, false)) := by rw [HZ2.out.1, natL, hsc]; rfl
          clear hsc HZ2
          go_wp2_with (go_at_call 148; refine (show Calls Tryz.prog 148 _ _ _ from HS1.out).mono ?_; rintro e wz ⟨rfl, rfl⟩)
          go_ret2
          have hz : Z = (0, false) := HE.out
          subst hz
          exact ⟨rfl, OI.out⟩
        | some nt =>
          rw [hsc] at HS1
          simp only [scrV] at HS1
          obtain ⟨hin, q1, q2⟩ := scr_some hsc
          have HI1 : Hid (Calls Tryz.prog 149 #[.int .i32 (c : Nat), .int .i32 nt] (w.iter s (pos + wd)) fun e w' => e = .returned (.bool (inS c nt)) ∧ w' = w.iter s (pos + wd)) := HIn.out _ _ _ (by omega) (by omega)
          rw [hin] at HI1
          have hin2 := hin
          simp only [inS, decide_eq_true_eq] at hin2
          obtain ⟨j1, j2⟩ := hin2
          have HN : Hid (Z = natL ((crs s b' (pos + wd)).map (·.2)) nt true (dig m c nt) ∧ s.size ≤ pos + wd + b' ∧ dig m c nt ≤ 11529215046068469769 ∧ 0 ≤ nt ∧ nt ≤ 65296) := ⟨by rw [HZ2.out.1, natL, hsc], HZ2.out.2, dig_le hm hin, by omega, q2⟩
          clear hin hsc HZ2
          by_cases hbig : m ≤ 1152921504606846976
          · have i1 : (m : Int) ≤ 1152921504606846976 := by omega
            have e1 : IntKind.u64.wrap ((m : Int) * 10) = ((m * 10 : Nat) : Int) := by rw [IntKind.wrap_u64]; omega
            have e2 : IntKind.i32.wrap ((c : Int) - nt) = (c : Int) - nt := by rw [IntKind.wrap_i32]; omega
            have e3 : IntKind.u64.wrap ((c : Int) - nt) = (c : Int) - nt := by rw [IntKind.wrap_u64]; omega
            have e4 : IntKind.u64.wrap (((m * 10 : Nat) : Int) + ((c : Int) - nt)) = ((dig m c nt : Nat) : Int) := by
              unfold dig
              rw [if_pos hbig, IntKind.wrap_u64]
              omega
            go_wp2_with (first | (go_at_call 148; refine (show Calls Tryz.prog 148 _ _ _ from HS1.out).mono ?_; rintro e wz ⟨rfl, rfl⟩) | (go_at_call 149; refine (show Calls Tryz.prog 149 _ _ _ from HI1.out).mono ?_; rintro e wz ⟨rfl, rfl⟩))
            go_roundw
            case rel => exact ⟨dig m c nt, pos + wd, b', true, nt, rfl, congrArg (Value.int .u64) (by unfold dig; rw [if_pos hbig]; omega), rfl, rfl, HN.out⟩
            case measure => simp; omega
          · have i1 : ¬ (m : Int) ≤ 1152921504606846976 := by omega
            have e4 : dig m c nt = m := if_neg hbig
            rw [e4] at HN
            go_wp2_with (first | (go_at_call 148; refine (show Calls Tryz.prog 148 _ _ _ from HS1.out).mono ?_; rintro e wz ⟨rfl, rfl⟩) | (go_at_call 149; refine (show Calls Tryz.prog 149 _ _ _ from HI1.out).mono ?_; rintro e wz ⟨rfl, rfl⟩))
            go_roundw
            case rel => exact ⟨m, pos + wd, b', true, nt, rfl, rfl, rfl, rfl, HN.out⟩
            case measure => simp; omega
    · have hnx : ∀ ty, (Instr.next (.pointer (some ⟨w.heap.size, 0, none⟩)) true ty).run Tryz.prog (w.iter s pos) = _ := fun ty => run_next_end w s pos ty hp
      have HE : Hid (Z = (m, k)) := by rw [HI.out.1, crs_end hp]; rfl
      clear HI
      go_wp2
      go_ret2
      have hz : Z = (m, k) := HE.out
      subst hz
      exact ⟨rfl, (Only.refl _ w).iter s pos⟩
end Go.Proofs.YthlloenonjagbaaGreatDoor
namespace Go.Proofs.YthlloenonjagbaaGreatDoor
open Go.RowKit
set_option linter.unusedSimpArgs false
set_option linter.unusedVariables false

/-- Does s begin with p? -/
def preB (s p : ByteArray) : Bool := decide (p.size ≤ s.size) && ((s.extract 0 p.size).toList == p.toList)
theorem preB_le {s p : ByteArray} (h : preB s p = true) : p.size ≤ s.size := by
  simp only [preB, Bool.and_eq_true, decide_eq_true_eq] at h
  exact h.1
set_option maxRecDepth 100000 in
set_option maxHeartbeats 1000000 in
theorem hasprefix_lite (s p : ByteArray) (w : World) : Calls Tryz.prog 145 #[.string s, .string p] w fun e w' => e = .returned (.bool (preB s p)) ∧ w' = w := by
  by_cases h : p.size ≤ s.size
  · have h' : (p.size : Int) ≤ (s.size : Int) := by omega
    have hv : preB s p = ((s.extract 0 p.size).toList == p.toList) := by simp [preB, h]
    rw [hv]
    clear hv
    go_enter Tryz.func145, Tryz.ntmps145
    go_wp2
    go_ret
    exact ⟨rfl, rfl⟩
  · have h' : ¬ (p.size : Int) ≤ (s.size : Int) := by omega
    have hv : preB s p = false := by simp [preB, h]
    rw [hv]
    clear hv
    go_enter Tryz.func145, Tryz.ntmps145
    go_wp2
    go_ret
    exact ⟨rfl, rfl⟩
set_option maxRecDepth 100000 in
theorem hasprefix_any (s p : ByteArray) (w : World) : Calls Tryz.prog 135 #[.string s, .string p] w fun e w' => e = .returned (.bool (preB s p)) ∧ w' = w := by
  have H := hasprefix_lite s p w
  go_enter Tryz.func135, Tryz.ntmps135
  go_wp2_with (go_at_call 145; refine H.mono ?_; rintro e wz ⟨rfl, rfl⟩)
  go_ret
  exact ⟨rfl, rfl⟩
def cutV (s p : ByteArray) : Value := if preB s p then .tuple #[.string (s.extract p.size s.size), .bool true] else .tuple #[.string s, .bool false]
set_option maxRecDepth 100000 in
set_option maxHeartbeats 1000000 in
theorem cutprefix_lite (s p : ByteArray) (w : World) : Calls Tryz.prog 153 #[.string s, .string p] w fun e w' => e = .returned (cutV s p) ∧ w' = w := by
  have H : Hid (Calls Tryz.prog 145 #[.string s, .string p] w fun e w' => e = .returned (.bool (preB s p)) ∧ w' = w) := hasprefix_lite s p w
  unfold cutV
  cases hb : preB s p with
  | true =>
    rw [hb] at H
    have hle := preB_le hb
    have h' : (p.size : Int) ≤ (s.size : Int) := by omega
    clear hb
    go_enter Tryz.func153, Tryz.ntmps153
    go_wp2_with (go_at_call 145; refine (show Calls Tryz.prog 145 _ _ _ from H.out).mono ?_; rintro e wz ⟨rfl, rfl⟩)
    go_ret2
    exact ⟨rfl, rfl⟩
  | false =>
    rw [hb] at H
    clear hb
    go_enter Tryz.func153, Tryz.ntmps153
    go_wp2_with (go_at_call 145; refine (show Calls Tryz.prog 145 _ _ _ from H.out).mono ?_; rintro e wz ⟨rfl, rfl⟩)
    go_ret2
    exact ⟨rfl, rfl⟩
set_option maxRecDepth 100000 in
theorem cutprefix_any (s p : ByteArray) (w : World) : Calls Tryz.prog 147 #[.string s, .string p] w fun e w' => e = .returned (cutV s p) ∧ w' = w := by
  have H : Hid (Calls Tryz.prog 153 #[.string s, .string p] w fun e w' => e = .returned (cutV s p) ∧ w' = w) := cutprefix_lite s p w
  unfold cutV at H ⊢
  cases hb : preB s p with
  | true =>
    rw [hb, if_pos rfl] at H
    clear hb
    go_enter Tryz.func147, Tryz.ntmps147
    go_wp2_with (go_at_call 153; refine (show Calls Tryz.prog 153 _ _ _ from H.out).mono ?_; rintro e wz ⟨rfl, rfl⟩)
    go_ret2
    exact ⟨rfl, rfl⟩
  | false =>
    rw [hb, if_neg (by simp)] at H
    clear hb
    go_enter Tryz.func147, Tryz.ntmps147
    go_wp2_with (go_at_call 153; refine (show Calls Tryz.prog 153 _ _ _ from H.out).mono ?_; rintro e wz ⟨rfl, rfl⟩)
    go_ret2
    exact ⟨rfl, rfl⟩
def hyB : ByteArray := ⟨#[45]⟩
def miB : ByteArray := ⟨#[226, 136, 146]⟩
/-- A word without its sign. -/
def sgn (s : ByteArray) : ByteArray × Bool := if preB s hyB then (s.extract 1 s.size, true) else if preB s miB then (s.extract 3 s.size, true) else (s, false)
set_option maxRecDepth 100000 in
set_option maxHeartbeats 1000000 in
theorem unsigned_any (s : ByteArray) (w : World) : Calls Tryz.prog 137 #[.string s] w fun e w' => e = .returned (.tuple #[.string (sgn s).1, .bool (sgn s).2]) ∧ w' = w := by
  have H1 : Hid (Calls Tryz.prog 147 #[.string s, .string ⟨#[45]⟩] w fun e w' => e = .returned (cutV s hyB) ∧ w' = w) := cutprefix_any s hyB w
  have H2 : Hid (Calls Tryz.prog 147 #[.string s, .string ⟨#[226, 136, 146]⟩] w fun e w' => e = .returned (cutV s miB) ∧ w' = w) := cutprefix_any s miB w
  unfold cutV at H1 H2
  cases hb : preB s hyB with
  | true =>
    rw [hb, if_pos rfl] at H1
    have hs : sgn s = (s.extract 1 s.size, true) := by unfold sgn; rw [hb]; rfl
    have h1 : hyB.size = 1 := rfl
    rw [h1] at H1
    rw [hs]
    clear hs hb H2 h1
    go_enter Tryz.func137, Tryz.ntmps137
    go_wp2_with (go_at_call 147; refine (show Calls Tryz.prog 147 _ _ _ from H1.out).mono ?_; rintro e wz ⟨rfl, rfl⟩)
    go_ret2
    exact ⟨rfl, rfl⟩
  | false =>
    rw [hb, if_neg (by simp)] at H1
    cases hb2 : preB s miB with
    | true =>
      rw [hb2, if_pos rfl] at H2
      have hs : sgn s = (s.extract 3 s.size, true) := by unfold sgn; rw [hb, hb2]; rfl
      have h1 : miB.size = 3 := rfl
      rw [h1] at H2
      rw [hs]
      clear hs hb hb2 h1
      go_enter Tryz.func137, Tryz.ntmps137
      go_wp2_with fail
      refine (show Calls Tryz.prog 147 _ _ _ from H1.out).mono ?_
      rintro e wz ⟨rfl, rfl⟩
      clear H1
      go_wp2_with fail
      refine (show Calls Tryz.prog 147 _ _ _ from H2.out).mono ?_
      rintro e wz ⟨rfl, rfl⟩
      clear H2
      go_wp2
      go_ret2
      exact ⟨rfl, rfl⟩
    | false =>
      rw [hb2, if_neg (by simp)] at H2
      have hs : sgn s = (s, false) := by unfold sgn; rw [hb, hb2]; rfl
      rw [hs]
      clear hs hb hb2
      go_enter Tryz.func137, Tryz.ntmps137
      go_wp2_with fail
      refine (show Calls Tryz.prog 147 _ _ _ from H1.out).mono ?_
      rintro e wz ⟨rfl, rfl⟩
      clear H1
      go_wp2_with fail
      refine (show Calls Tryz.prog 147 _ _ _ from H2.out).mono ?_
      rintro e wz ⟨rfl, rfl⟩
      clear H2
      go_wp2
      go_ret2
      exact ⟨rfl, rfl⟩
/-- What a word is as a number: it, or an error. -/
def numR (s : ByteArray) : Int × Int :=
  if (natL (rns (sgn s).1) 0 false 0).2 = false then (0, 9)
  else if (sgn s).2 = true ∧ (natL (rns (sgn s).1) 0 false 0).1 ≤ 1152921504606846976 then (-((natL (rns (sgn s).1) 0 false 0).1 : Int), 0)
  else if (sgn s).2 = false ∧ (natL (rns (sgn s).1) 0 false 0).1 ≤ 1152921504606846975 then ((natL (rns (sgn s).1) 0 false 0).1, 0)
  else (0, 11)
set_option maxRecDepth 100000 in
set_option maxHeartbeats 1000000 in
theorem number_any (s : ByteArray) (w : World) (h : Nog w) : Calls Tryz.prog 129 #[.string s] w fun e w' => e = .returned (.tuple #[.int .i64 (numR s).1, .int .i64 (numR s).2]) ∧ Only (fun _ => False) w w' := by
  have H1 : Hid (Calls Tryz.prog 137 #[.string s] w fun e w' => e = .returned (.tuple #[.string (sgn s).1, .bool (sgn s).2]) ∧ w' = w) := unsigned_any s w
  have H2 : Hid (Calls Tryz.prog 138 #[.string (sgn s).1] w fun e w' => e = .returned (.tuple #[.int .u64 ((natL (rns (sgn s).1) 0 false 0).1 : Nat), .bool (natL (rns (sgn s).1) 0 false 0).2]) ∧ Only (fun _ => False) w w') := natural_any _ w h
  unfold numR
  obtain ⟨d, hd⟩ : ∃ d, d = (sgn s).1 := ⟨_, rfl⟩
  obtain ⟨b, hb⟩ : ∃ d, d = (sgn s).2 := ⟨_, rfl⟩
  rw [← hd] at H1 H2 ⊢
  rw [← hb] at H1 ⊢
  obtain ⟨n, hn⟩ : ∃ x, x = (natL (rns d) 0 false 0).1 := ⟨_, rfl⟩
  obtain ⟨k, hk⟩ : ∃ x, x = (natL (rns d) 0 false 0).2 := ⟨_, rfl⟩
  rw [← hn, ← hk] at H2 ⊢
  clear hd hb hn hk h
  cases k with
  | false =>
    simp only [if_true]
    go_enter Tryz.func129, Tryz.ntmps129
    go_wp2_with fail
    refine (show Calls Tryz.prog 137 _ _ _ from H1.out).mono ?_
    rintro e w1 ⟨rfl, rfl⟩
    clear H1
    go_wp2_with fail
    refine (show Calls Tryz.prog 138 _ _ _ from H2.out).mono ?_
    rintro e w2 ⟨rfl, ho⟩
    have HO : Hid (Only (fun _ => False) w1 w2) := ho
    clear H2 ho
    go_wp2
    go_ret2
    exact ⟨rfl, HO.out⟩
  | true =>
    cases b with
    | true =>
      by_cases hl : n ≤ 1152921504606846976
      · have i1 : (n : Int) ≤ 1152921504606846976 := by omega
        have e1 : IntKind.i64.wrap (n : Int) = (n : Int) := by rw [IntKind.wrap_i64]; omega
        have e2 : IntKind.i64.wrap (-(n : Int)) = -(n : Int) := by rw [IntKind.wrap_i64]; omega
        simp only [hl, and_self, if_true, Bool.true_eq_false, if_false]
        go_enter Tryz.func129, Tryz.ntmps129
        go_wp2_with fail
        refine (show Calls Tryz.prog 137 _ _ _ from H1.out).mono ?_
        rintro e w1 ⟨rfl, rfl⟩
        clear H1
        go_wp2_with fail
        refine (show Calls Tryz.prog 138 _ _ _ from H2.out).mono ?_
        rintro e w2 ⟨rfl, ho⟩
        have HO : Hid (Only (fun _ => False) w1 w2) := ho
        clear H2 ho
        go_wp2
        go_ret2
        exact ⟨rfl, HO.out⟩
      · have i1 : ¬ (n : Int) ≤ 1152921504606846976 := by omega
        simp only [hl, and_false, Bool.true_eq_false, if_false, false_and]
        go_enter Tryz.func129, Tryz.ntmps129
        go_wp2_with fail
        refine (show Calls Tryz.prog 137 _ _ _ from H1.out).mono ?_
        rintro e w1 ⟨rfl, rfl⟩
        clear H1
        go_wp2_with fail
        refine (show Calls Tryz.prog 138 _ _ _ from H2.out).mono ?_
        rintro e w2 ⟨rfl, ho⟩
        have HO : Hid (Only (fun _ => False) w1 w2) := ho
        clear H2 ho
        go_wp2
        go_ret2
        exact ⟨rfl, HO.out⟩
    | false =>
      by_cases hl : n ≤ 1152921504606846975
      · have i1 : (n : Int) ≤ 1152921504606846975 := by omega
        have e1 : IntKind.i64.wrap (n : Int) = (n : Int) := by rw [IntKind.wrap_i64]; omega
        simp only [hl, and_self, if_true, Bool.false_eq_true, Bool.true_eq_false, false_and, if_false]
        go_enter Tryz.func129, Tryz.ntmps129
        go_wp2_with fail
        refine (show Calls Tryz.prog 137 _ _ _ from H1.out).mono ?_
        rintro e w1 ⟨rfl, rfl⟩
        clear H1
        go_wp2_with fail
        refine (show Calls Tryz.prog 138 _ _ _ from H2.out).mono ?_
        rintro e w2 ⟨rfl, ho⟩
        have HO : Hid (Only (fun _ => False) w1 w2) := ho
        clear H2 ho
        go_wp2
        go_ret2
        exact ⟨rfl, HO.out⟩
      · have i1 : ¬ (n : Int) ≤ 1152921504606846975 := by omega
        simp only [hl, and_false, Bool.true_eq_false, Bool.false_eq_true, if_false, false_and]
        go_enter Tryz.func129, Tryz.ntmps129
        go_wp2_with fail
        refine (show Calls Tryz.prog 137 _ _ _ from H1.out).mono ?_
        rintro e w1 ⟨rfl, rfl⟩
        clear H1
        go_wp2_with fail
        refine (show Calls Tryz.prog 138 _ _ _ from H2.out).mono ?_
        rintro e w2 ⟨rfl, ho⟩
        have HO : Hid (Only (fun _ => False) w1 w2) := ho
        clear H2 ho
        go_wp2
        go_ret2
        exact ⟨rfl, HO.out⟩
end Go.Proofs.YthlloenonjagbaaGreatDoor
