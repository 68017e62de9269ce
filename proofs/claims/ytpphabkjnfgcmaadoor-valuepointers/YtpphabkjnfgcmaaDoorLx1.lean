/- The digits of a script: inScript, script. -/
import Derived.Test.YtpphabkjnfgcmaaDoorRows
import Derived.Test.YtpphabkjnfgcmaaDoorBase
import Derived.WalkKit
import Derived.WalkSpells
import Derived.WalkLawsBesides
import Derived.OpenShut
namespace Go.Proofs.YtpphabkjnfgcmaaDoor
open Go.RowKit
set_option linter.unusedSimpArgs false
set_option linter.unusedVariables false

def inS (c nt : Int) : Bool := decide (nt ≤ c ∧ c ≤ nt + 9)
set_option maxRecDepth 100000 in
theorem inscript_any (c nt : Int) (w : World) (h1 : -2147483648 ≤ nt) (h2 : nt ≤ 2147483638) :
    Calls Tryd.prog 75 #[.int .i32 c, .int .i32 nt] w fun e w' => e = .returned (.bool (inS c nt)) ∧ w' = w := by
  have e : IntKind.i32.wrap (nt + 9) = nt + 9 := by rw [IntKind.wrap_i32]; omega
  by_cases a : nt ≤ c
  · by_cases b : c ≤ nt + 9
    · have hv : inS c nt = true := by simp [inS, a, b]
      rw [hv]
      go_enter Tryd.func75, Tryd.ntmps75
      go_wp2
      go_ret
      exact ⟨rfl, rfl⟩
    · have hv : inS c nt = false := by simp [inS, b]
      rw [hv]
      go_enter Tryd.func75, Tryd.ntmps75
      go_wp2
      go_ret
      exact ⟨rfl, rfl⟩
  · have hv : inS c nt = false := by simp [inS, a]
    rw [hv]
    go_enter Tryd.func75, Tryd.ntmps75
    go_wp2
    go_ret
    exact ⟨rfl, rfl⟩
/-- The nought of the script of a digit. -/
def scr (c : Int) : Option Int := if inS c 48 then some 48 else if inS c 1632 then some 1632 else if inS c 65296 then some 65296 else none
theorem ix0 (w : World) : (Instr.index 153 (.agg #[.int .i32 48, .int .i32 1632, .int .i32 65296]) (.int .i64 0)).run Tryd.prog w = .ok (.int .i32 48) w := by kernel_rfl
theorem ix1 (w : World) : (Instr.index 153 (.agg #[.int .i32 48, .int .i32 1632, .int .i32 65296]) (.int .i64 1)).run Tryd.prog w = .ok (.int .i32 1632) w := by kernel_rfl
theorem ix2 (w : World) : (Instr.index 153 (.agg #[.int .i32 48, .int .i32 1632, .int .i32 65296]) (.int .i64 2)).run Tryd.prog w = .ok (.int .i32 65296) w := by kernel_rfl
/-- What the package's digits hold. -/
def Nog (w : World) : Prop := w.cell? ⟨4, 0, none⟩ = some (.int .i32 48) ∧ w.cell? ⟨4, 1, none⟩ = some (.int .i32 1632) ∧ w.cell? ⟨4, 2, none⟩ = some (.int .i32 65296)
theorem Nog.frame {w w' : World} (h : Nog w) (ho : Only (fun _ => False) w w') : Nog w' := ⟨ho.cell h.1 (fun g => g), ho.cell h.2.1 (fun g => g), ho.cell h.2.2 (fun g => g)⟩
def scrV (o : Option Int) : Value := match o with
  | some nt => .tuple #[.int .i32 nt, .bool true]
  | none => .tuple #[.int .i32 0, .bool false]
set_option maxRecDepth 100000 in
set_option maxHeartbeats 1000000 in
theorem script_any (c : Int) (w : World) (h : Nog w) :
    Calls Tryd.prog 74 #[.int .i32 c] w fun e w' => e = .returned (scrV (scr c)) ∧ w' = w := by
  obtain ⟨g0, g1, g2⟩ := h
  have H48 : Hid (Calls Tryd.prog 75 #[.int .i32 c, .int .i32 48] w fun e w' => e = .returned (.bool (inS c 48)) ∧ w' = w) := inscript_any c 48 w (by omega) (by omega)
  have H16 : Hid (Calls Tryd.prog 75 #[.int .i32 c, .int .i32 1632] w fun e w' => e = .returned (.bool (inS c 1632)) ∧ w' = w) := inscript_any c 1632 w (by omega) (by omega)
  have H65 : Hid (Calls Tryd.prog 75 #[.int .i32 c, .int .i32 65296] w fun e w' => e = .returned (.bool (inS c 65296)) ∧ w' = w) := inscript_any c 65296 w (by omega) (by omega)
  have HS : Hid (scr c = if inS c 48 then some 48 else if inS c 1632 then some 1632 else if inS c 65296 then some 65296 else none) := rfl
  obtain ⟨Y, hY⟩ : ∃ Y, Y = scr c := ⟨_, rfl⟩
  rw [← hY] at HS ⊢
  obtain ⟨b1, hb1⟩ : ∃ b, b = inS c 48 := ⟨_, rfl⟩
  obtain ⟨b2, hb2⟩ : ∃ b, b = inS c 1632 := ⟨_, rfl⟩
  obtain ⟨b3, hb3⟩ : ∃ b, b = inS c 65296 := ⟨_, rfl⟩
  rw [← hb1] at H48 HS
  rw [← hb2] at H16 HS
  rw [← hb3] at H65 HS
  clear hY hb1 hb2 hb3
  have i0 := ix0 w
  have i1 := ix1 w
  have i2 := ix2 w
  go_enter Tryd.func74, Tryd.ntmps74
  go_wp2
  go_loopw [7] (fun t wr => ∃ r : Int, t = .int .i64 r ∧ (r = 0 ∨ (r = 1 ∧ b1 = false) ∨ (r = 2 ∧ b1 = false ∧ b2 = false) ∨ (r = 3 ∧ b1 = false ∧ b2 = false ∧ b3 = false)) ∧ w = wr) (fun t _ => 3 - (intOf t).toNat)
  case atStart => exact ⟨0, rfl, .inl rfl, rfl⟩
  case round =>
    obtain ⟨r, rfl, hr, rfl⟩ := hrel
    rcases hr with rfl | ⟨rfl, rfl⟩ | ⟨rfl, rfl, rfl⟩ | ⟨rfl, rfl, rfl, rfl⟩
    · cases b1 with
      | true =>
        go_wp2_with (go_at_call 75; refine (show Calls Tryd.prog 75 _ _ _ from H48.out).mono ?_; rintro e wz ⟨rfl, rfl⟩)
        go_ret2
        exact ⟨by rw [HS.out]; rfl, rfl⟩
      | false =>
        go_wp2_with (go_at_call 75; refine (show Calls Tryd.prog 75 _ _ _ from H48.out).mono ?_; rintro e wz ⟨rfl, rfl⟩)
        go_roundw
        case rel => exact ⟨1, rfl, by simp, by first | trivial | rfl⟩
        case measure => simp [intOf]
    · cases b2 with
      | true =>
        go_wp2_with (go_at_call 75; refine (show Calls Tryd.prog 75 _ _ _ from H16.out).mono ?_; rintro e wz ⟨rfl, rfl⟩)
        go_ret2
        exact ⟨by rw [HS.out]; rfl, rfl⟩
      | false =>
        go_wp2_with (go_at_call 75; refine (show Calls Tryd.prog 75 _ _ _ from H16.out).mono ?_; rintro e wz ⟨rfl, rfl⟩)
        go_roundw
        case rel => exact ⟨2, rfl, by simp, by first | trivial | rfl⟩
        case measure => simp [intOf]
    · cases b3 with
      | true =>
        go_wp2_with (go_at_call 75; refine (show Calls Tryd.prog 75 _ _ _ from H65.out).mono ?_; rintro e wz ⟨rfl, rfl⟩)
        go_ret2
        exact ⟨by rw [HS.out]; rfl, rfl⟩
      | false =>
        go_wp2_with (go_at_call 75; refine (show Calls Tryd.prog 75 _ _ _ from H65.out).mono ?_; rintro e wz ⟨rfl, rfl⟩)
        go_roundw
        case rel => exact ⟨3, rfl, by simp, by first | trivial | rfl⟩
        case measure => simp [intOf]
    · go_wp2
      go_ret2
      exact ⟨by rw [HS.out]; rfl, rfl⟩
end Go.Proofs.YtpphabkjnfgcmaaDoor
