/- Copies of values: copied, copiedItem, Copy. The numbers by which the library's contracts on strconv.FormatInt and strings.Join stand over this program. A call of a function within a region that draws. -/
import Derived.Test.YtllpacppedobjaaGreatDoorHah
import Derived.Test.YtllpacppedobjaaGreatDoorHaf
import Derived.Shelf.Strconv.Itoa4
import Derived.Shelf.Strings.OnBuilder
import Derived.Test.YtllpacppedobjaaGreatDoorProg
import Derived.Test.YtllpacppedobjaaGreatDoorHaa
import Derived.Deep.RegionHeld3
import Derived.BigQuiet
namespace Go.Proofs.YtllpacppedobjaaGreatDoor
open Go.RowKit Go.Lib
set_option linter.unusedSimpArgs false
set_option linter.unusedVariables false
theorem PsAt.only {w w' : World} {S bs : Nat → Prop} {d : Nat} {i : Bool} {l : List Vt} {ao : Option Addr} (h : PsAt w S d i l ao) (o : Only bs w w') (hb : ∀ b, S b → ¬ bs b) : PsAt w' S d i l ao := fun j x hx => by
  obtain ⟨g, q, u, h1, h2, h3, h4⟩ := h j x hx
  exact ⟨g, q, u, h1, h2, o.cell h3 (hb g h2), h4.only o hb⟩
theorem ps_nil {w : World} {S : Nat → Prop} {d : Nat} {i : Bool} {l : List Vt} {ao : Option Addr} (h : PsAt w S d i l ao) (e : ao = none) : l = [] := by
  cases l with
  | nil => rfl
  | cons x r =>
    obtain ⟨g, q, u, h1, _⟩ := h 0 x rfl
    rw [e] at h1
    cases h1
set_option maxRecDepth 100000 in
theorem cp_other (T : TypeId) (x : Value) (hL : T ≠ 71) (hQ : T ≠ 73) (w : World) : Calls Tryz.prog 32 #[.iface T x] w fun e w' => e = .returned (.iface T x) ∧ Only (fun _ => False) w w' := by
  have mList := va_miss T 71 27 _ Tryz.underlying71 (by intro m h; cases h) hL _ zL
  have mQuot := va_miss T 73 27 _ Tryz.underlying73 (by intro m h; cases h) hQ _ zQ
  have O : Hid (Only (fun _ => False) w w) := Only.refl _ _
  clear hL hQ
  go_enter Tryz.func32, Tryz.ntmps32
  go_wp2
  go_ret
  exact ⟨rfl, by repeat' first | exact O.out | apply Only.alloc⟩
set_option maxRecDepth 100000 in
theorem cp_nil (w : World) : Calls Tryz.prog 32 #[.nilIface] w fun e w' => e = .returned .nilIface ∧ Only (fun _ => False) w w' := by
  have mList := uas_nil 71 27 _ Tryz.underlying71 (by intro m h; cases h) _ zL
  have mQuot := uas_nil 73 27 _ Tryz.underlying73 (by intro m h; cases h) _ zQ
  have O : Hid (Only (fun _ => False) w w) := Only.refl _ _
  go_enter Tryz.func32, Tryz.ntmps32
  go_wp2
  go_ret
  exact ⟨rfl, by repeat' first | exact O.out | apply Only.alloc⟩
set_option maxRecDepth 100000 in
theorem cp_v (d : Nat) (H : CeC d false 32 50) (l : List Vt) (ao : Option Addr) (cap : Nat) (w : World) (S : Nat → Prop) (hl : PsAt w S d false l ao) (hS : ∀ b, S b → b < w.heap.size) (hsm : ∀ x ∈ l, ∃ e, SmT e x) (hlen : l.length ≤ 1048576) :
    Calls Tryz.prog 32 #[.iface 71 (.agg #[.slice ao l.length cap])] w fun e w' => ∃ ao' cap', e = .returned (.iface 71 (.agg #[.slice ao' l.length cap'])) ∧ Hid (l.length ≤ cap' ∧ (∃ S', PsAt w' S' d false l ao' ∧ ∀ b, S' b → w.heap.size ≤ b ∧ Liv w' b) ∧ Only (fun _ => False) w w') := by
  have HC : Hid (∀ w1, Only (fun _ => False) w w1 → Calls Tryz.prog 50 #[.slice ao l.length cap, .func (.func 32) #[] #[]] w1 fun e w' => ∃ ao' cap', e = .returned (.slice ao' l.length cap') ∧ Hid (l.length ≤ cap' ∧ (∃ S', PsAt w' S' d false l ao' ∧ ∀ b, S' b → w.heap.size ≤ b ∧ Liv w' b) ∧ Only (fun _ => False) w w')) := fun w1 o1 => by
    refine (H l ao cap w1 S (hl.only o1 (fun _ _ g => g)) (fun b hb => Nat.lt_of_lt_of_le (hS b hb) o1.size) hsm hlen (ps_nil hl)).mono fun e w' g => ?_
    obtain ⟨ao', cap', he, g⟩ := g
    obtain ⟨g1, ⟨S', g2, g3⟩, g4⟩ := g.out
    exact ⟨ao', cap', he, g1, ⟨S', g2, fun b hb => ⟨Nat.le_trans o1.size (g3 b hb).1, (g3 b hb).2⟩⟩, o1.trans g4 (fun _ _ g => g)⟩
  have hList := va_hit 71 27 _ Tryz.underlying71 (by intro m h; cases h)
  have O : Hid (Only (fun _ => False) w w) := Only.refl _ _
  obtain ⟨N, hN⟩ : ∃ N, N = l.length := ⟨_, rfl⟩
  rw [← hN] at HC ⊢
  clear hl hS hsm hlen hN H
  go_enter Tryz.func32, Tryz.ntmps32
  go_wp2_with fail
  refine (show Calls Tryz.prog 50 _ _ _ from HC.out _ (by repeat' first | exact O.out | apply Only.alloc)).mono ?_
  rintro e w1 ⟨ao', cap', rfl, G⟩
  clear HC O
  go_wp2
  go_ret
  exact ⟨ao', cap', rfl, G⟩
set_option maxRecDepth 100000 in
theorem cp_i (d : Nat) (H : CeC d true 52 51) (l : List Vt) (ao : Option Addr) (cap : Nat) (w : World) (S : Nat → Prop) (hl : PsAt w S d true l ao) (hS : ∀ b, S b → b < w.heap.size) (hsm : ∀ x ∈ l, ∃ e, SmT e x) (hlen : l.length ≤ 1048576) :
    Calls Tryz.prog 32 #[.iface 73 (.agg #[.slice ao l.length cap])] w fun e w' => ∃ ao' cap', e = .returned (.iface 73 (.agg #[.slice ao' l.length cap'])) ∧ Hid (l.length ≤ cap' ∧ (∃ S', PsAt w' S' d true l ao' ∧ ∀ b, S' b → w.heap.size ≤ b ∧ Liv w' b) ∧ Only (fun _ => False) w w') := by
  have HC : Hid (∀ w1, Only (fun _ => False) w w1 → Calls Tryz.prog 51 #[.slice ao l.length cap, .func (.func 52) #[] #[]] w1 fun e w' => ∃ ao' cap', e = .returned (.slice ao' l.length cap') ∧ Hid (l.length ≤ cap' ∧ (∃ S', PsAt w' S' d true l ao' ∧ ∀ b, S' b → w.heap.size ≤ b ∧ Liv w' b) ∧ Only (fun _ => False) w w')) := fun w1 o1 => by
    refine (H l ao cap w1 S (hl.only o1 (fun _ _ g => g)) (fun b hb => Nat.lt_of_lt_of_le (hS b hb) o1.size) hsm hlen (ps_nil hl)).mono fun e w' g => ?_
    obtain ⟨ao', cap', he, g⟩ := g
    obtain ⟨g1, ⟨S', g2, g3⟩, g4⟩ := g.out
    exact ⟨ao', cap', he, g1, ⟨S', g2, fun b hb => ⟨Nat.le_trans o1.size (g3 b hb).1, (g3 b hb).2⟩⟩, o1.trans g4 (fun _ _ g => g)⟩
  have mList := va_miss 73 71 27 _ Tryz.underlying71 (by intro m h; cases h) (by decide) _ zL
  have hQuot := va_hit 73 27 _ Tryz.underlying73 (by intro m h; cases h)
  have O : Hid (Only (fun _ => False) w w) := Only.refl _ _
  obtain ⟨N, hN⟩ : ∃ N, N = l.length := ⟨_, rfl⟩
  rw [← hN] at HC ⊢
  clear hl hS hsm hlen hN H
  go_enter Tryz.func32, Tryz.ntmps32
  go_wp2_with fail
  refine (show Calls Tryz.prog 51 _ _ _ from HC.out _ (by repeat' first | exact O.out | apply Only.alloc)).mono ?_
  rintro e w1 ⟨ao', cap', rfl, G⟩
  clear HC O
  go_wp2
  go_ret
  exact ⟨ao', cap', rfl, G⟩
theorem cp_of (d : Nat) (H1 : CpC d false 32) (H2 : CpC d true 52) : CpC (d + 1) false 32 := by
  intro t v w S h hsm hS
  have leaf : ∀ w', TiAt w' (fun _ => False) (d + 1) false t v → Only (fun _ => False) w w' → ∃ v', (Ending.returned v) = .returned v' ∧ Hid (NiAt w' w.heap.size (d + 1) false t v' ∧ Only (fun _ => False) w w') := fun w' ht o => ⟨v, rfl, ⟨_, ht, fun b hb => hb.elim⟩, o⟩
  rcases h with ⟨h1, h2, rfl⟩ | ⟨h1, h2, rfl⟩ | ⟨h1, h2, rfl⟩ | ⟨h1, h2, rfl⟩ | ⟨h1, h2, rfl⟩ | ⟨h1, ao, cap, rfl, hc, hl⟩
  · exact (cp_other _ _ (by decide) (by decide) w).mono fun e w' g => by obtain ⟨rfl, o⟩ := g; exact leaf w' (.inl ⟨h1, h2, rfl⟩) o
  · exact (cp_other _ _ (by decide) (by decide) w).mono fun e w' g => by obtain ⟨rfl, o⟩ := g; exact leaf w' (.inr (.inl ⟨h1, h2, rfl⟩)) o
  · exact (cp_other _ _ (by decide) (by decide) w).mono fun e w' g => by obtain ⟨rfl, o⟩ := g; exact leaf w' (.inr (.inr (.inl ⟨h1, h2, rfl⟩))) o
  · exact (cp_other _ _ (by decide) (by decide) w).mono fun e w' g => by obtain ⟨rfl, o⟩ := g; exact leaf w' (.inr (.inr (.inr (.inl ⟨h1, h2, rfl⟩)))) o
  · exact (cp_nil w).mono fun e w' g => by obtain ⟨rfl, o⟩ := g; exact leaf w' (.inr (.inr (.inr (.inr (.inl ⟨h1, h2, rfl⟩))))) o
  · obtain ⟨e, hs⟩ := hsm
    have hlen := hs.len
    have hparts := hs.parts
    by_cases h4 : t.k = 4
    · rw [if_pos h4]
      rw [show decide (t.k = 5) = false by simp [h4]] at hl
      refine (cp_v d (ce_v d H1) t.l ao cap w S hl hS hparts hlen).mono fun e w' g => ?_
      obtain ⟨ao', cap', rfl, g⟩ := g
      obtain ⟨g1, ⟨S', g2, g3⟩, g4⟩ := g.out
      refine ⟨_, rfl, ⟨S', .inr (.inr (.inr (.inr (.inr ⟨h1, ao', cap', by rw [if_pos h4], g1, ?_⟩)))), g3⟩, g4⟩
      rw [show decide (t.k = 5) = false by simp [h4]]
      exact g2
    · have h5 : t.k = 5 := by rcases h1 with g | g; exact absurd g h4; exact g
      rw [if_neg h4]
      rw [show decide (t.k = 5) = true by simp [h5]] at hl
      refine (cp_i d (ce_i d H2) t.l ao cap w S hl hS hparts hlen).mono fun e w' g => ?_
      obtain ⟨ao', cap', rfl, g⟩ := g
      obtain ⟨g1, ⟨S', g2, g3⟩, g4⟩ := g.out
      refine ⟨_, rfl, ⟨S', .inr (.inr (.inr (.inr (.inr ⟨h1, ao', cap', by rw [if_neg h4], g1, ?_⟩)))), g3⟩, g4⟩
      rw [show decide (t.k = 5) = true by simp [h5]]
      exact g2
set_option maxRecDepth 100000 in
theorem ci_call (s : ByteArray) (w : World) : Calls Tryz.prog 52 #[.iface 102 (.agg #[.string s])] w fun e w' => e = .returned (.iface 102 (.agg #[.string s])) ∧ Only (fun _ => False) w w' := by
  have mP := va_miss 102 99 86 _ Tryz.underlying99 (by intro m h; cases h) (by decide) _ vzero_Push
  have O : Hid (Only (fun _ => False) w w) := Only.refl _ _
  go_enter Tryz.func52, Tryz.ntmps52
  go_wp2
  go_ret
  exact ⟨rfl, by repeat' first | exact O.out | apply Only.alloc⟩
set_option maxRecDepth 100000 in
theorem ci_nil (w : World) : Calls Tryz.prog 52 #[.nilIface] w fun e w' => e = .returned .nilIface ∧ Only (fun _ => False) w w' := by
  have mP := uas_nil 99 86 _ Tryz.underlying99 (by intro m h; cases h) _ vzero_Push
  have O : Hid (Only (fun _ => False) w w) := Only.refl _ _
  go_enter Tryz.func52, Tryz.ntmps52
  go_wp2
  go_ret
  exact ⟨rfl, by repeat' first | exact O.out | apply Only.alloc⟩
set_option maxRecDepth 100000 in
theorem ci_push (u : Value) (Q : Value → World → Prop) (w : World) (hu : u = .nilIface ∨ ∃ T y, u = .iface T y) (HC0 : ∀ w1, Only (fun _ => False) w w1 → Calls Tryz.prog 32 #[u] w1 fun e w' => ∃ v', e = .returned v' ∧ (v' = .nilIface ∨ ∃ T y, v' = .iface T y) ∧ Hid (Q v' w')) : Calls Tryz.prog 52 #[.iface 99 (.agg #[u])] w fun e w' => ∃ v', e = .returned (.iface 99 (.agg #[v'])) ∧ Hid (Q v' w') := by
  have mP := va_hit 99 86 _ Tryz.underlying99 (by intro m h; cases h)
  have HC : Hid _ := HC0
  have O : Hid (Only (fun _ => False) w w) := Only.refl _ _
  clear HC0
  rcases hu with rfl | ⟨T, y, rfl⟩
  all_goals
    go_enter Tryz.func52, Tryz.ntmps52
    go_wp2_with fail
    refine (show Calls Tryz.prog 32 _ _ _ from HC.out _ (by repeat' first | exact O.out | apply Only.alloc)).mono ?_
    rintro e w1 ⟨v', rfl, hv, G⟩
    clear HC O
    rcases hv with rfl | ⟨T', y', rfl⟩
    all_goals
      go_wp2
      go_ret
      exact ⟨_, rfl, G⟩
theorem ci_of (d : Nat) (H : CpC d false 32) : CpC (d + 1) true 52 := by
  intro t v w S h hsm hS
  rcases h with ⟨h1, h2, rfl⟩ | ⟨h1, h2, rfl⟩ | ⟨h1, h2, u, rfl, hu⟩
  · exact (ci_call _ w).mono fun e w' g => by obtain ⟨rfl, o⟩ := g; exact ⟨_, rfl, ⟨fun _ => False, .inl ⟨h1, h2, rfl⟩, fun b hb => hb.elim⟩, o⟩
  · exact (ci_nil w).mono fun e w' g => by obtain ⟨rfl, o⟩ := g; exact ⟨_, rfl, ⟨fun _ => False, .inr (.inl ⟨h1, h2, rfl⟩), fun b hb => hb.elim⟩, o⟩
  · refine (ci_push u (fun v' w' => NiAt w' w.heap.size d false t v' ∧ Only (fun _ => False) w w') w hu.shape2 (fun w1 o1 => ?_)).mono fun e w' g => ?_
    · refine (H t u w1 S (hu.only o1 (fun _ _ g => g)) hsm (fun b hb => Nat.lt_of_lt_of_le (hS b hb) o1.size)).mono fun e w' g => ?_
      obtain ⟨v', he, g⟩ := g
      exact ⟨v', he, (by obtain ⟨_, t, _⟩ := g.out.1; exact t.shape2), g.out.1.lower o1.size, o1.trans g.out.2 (fun _ _ g => g)⟩
    · obtain ⟨v', rfl, g⟩ := g
      obtain ⟨⟨S', g1, g2⟩, g3⟩ := g.out
      exact ⟨_, rfl, ⟨S', .inr (.inr ⟨h1, h2, v', rfl, g1⟩), g2⟩, g3⟩
theorem cp_all : ∀ (D d : Nat), d < D → CpC d false 32 ∧ CpC d true 52
  | 0, d, h => by omega
  | D + 1, d, h => by
    cases d with
    | zero => exact ⟨fun t v w0 S h => h.elim, fun t v w0 S h => h.elim⟩
    | succ d =>
      have ih := cp_all D d (by omega)
      exact ⟨cp_of d ih.1 ih.2, ci_of d ih.1⟩
/-- what Copy answers -/
def CoP (Z : Bool) (d : Nat) (t : Vt) (w : World) (e : Ending) (w' : World) : Prop := ∃ v', e = .returned (.tuple #[v', .int .i64 (if Z then 0 else 1)]) ∧ (Z = true → NiAt w' w.heap.size d false t v') ∧ (Z = false → v' = .nilIface) ∧ Only (fun _ => False) w w'
set_option maxRecDepth 100000 in
theorem vcopy_any {d : Nat} {t : Vt} {v : Value} {w : World} {S : Nat → Prop} (h : TiAt w S d false t v) (hS : ∀ b, S b → b < w.heap.size) (hsm : ∃ e, SmT e t) (hT : Tb w) : Calls Tryz.prog 14 #[v] w fun e w' => CoP (sdB d t) d t w e w' := by
  have HC : Hid _ := vcheck_any h hS hsm hT
  have HK : Hid (∀ w1, Only (fun _ => False) w w1 → Calls Tryz.prog 32 #[v] w1 fun e w' => ∃ v', e = .returned v' ∧ Hid (NiAt w' w.heap.size d false t v' ∧ Only (fun _ => False) w w')) := fun w1 o1 => by
    refine ((cp_all (d + 1) d (by omega)).1 t v w1 S (h.only o1 (fun _ _ g => g)) hsm (fun b hb => Nat.lt_of_lt_of_le (hS b hb) o1.size)).mono fun e w' g => ?_
    obtain ⟨v', he, g⟩ := g
    exact ⟨v', he, g.out.1.lower o1.size, o1.trans g.out.2 (fun _ _ g => g)⟩
  cases hZ : sdB d t with
  | false =>
    rw [hZ] at HC
    have HP : Hid (∀ w', Only (fun _ => False) w w' → CoP false d t w (.returned (.tuple #[.nilIface, .int .i64 1])) w') := fun w' o => ⟨_, rfl, fun g => (by cases g), fun _ => rfl, o⟩
    clear h hS hsm hT hZ HK
    go_enter Tryz.func14, Tryz.ntmps14
    go_wp2_with fail
    refine (show Calls Tryz.prog 9 _ _ _ from HC.out).mono ?_
    rintro e w1 ⟨rfl, o1⟩
    have O1 : Hid (Only (fun _ => False) w w1) := o1
    clear HC o1
    go_wp2
    go_ret2
    exact HP.out _ O1.out
  | true =>
    rw [hZ] at HC
    have HP : Hid (∀ v' w', NiAt w' w.heap.size d false t v' → Only (fun _ => False) w w' → CoP true d t w (.returned (.tuple #[v', .int .i64 0])) w') := fun v' w' hn o => ⟨_, rfl, fun _ => hn, fun g => (by cases g), o⟩
    clear h hS hsm hT hZ
    go_enter Tryz.func14, Tryz.ntmps14
    go_wp2_with fail
    refine (show Calls Tryz.prog 9 _ _ _ from HC.out).mono ?_
    rintro e w1 ⟨rfl, o1⟩
    have O1 : Hid (Only (fun _ => False) w w1) := o1
    clear HC o1
    go_wp2_with fail
    refine (show Calls Tryz.prog 32 _ _ _ from HK.out _ O1.out).mono ?_
    rintro e w2 ⟨v', rfl, G2⟩
    clear HK O1
    go_wp2
    go_ret2
    exact HP.out _ _ G2.out.1 G2.out.2
end Go.Proofs.YtllpacppedobjaaGreatDoor
namespace Go.Proofs
open Go.Shelf
def Tryz.laysFmt_ren : Go.Shelf.Ren := ⟨fun | 173 => 94 | 246 => 102 | 283 => 107 | 284 => 108 | 285 => 109 | 286 => 110 | 129 => 117 | 317 => 116 | 318 => 118 | 319 => 119 | 320 => 120 | 337 => 127 | 338 => 128 | n => n, fun | 2 => 2 | 3 => 3 | 9 => 9 | 4 => 4 | 171 => 181 | 0 => 0 | 53 => 127 | 37 => 105 | 5 => 5 | 173 => 184 | 212 => 194 | 51 => 195 | 20 => 20 | 213 => 196 | 46 => 164 | 232 => 204 | 233 => 205 | n => n, fun | 17 => 3 | 18 => 5 | 19 => 6 | n => n⟩
theorem Tryz.laysFmt : Go.Proofs.LaysM.n173 Tryz.prog Tryz.laysFmt_ren := {
  mixed := by kernel_rfl
  f129 := Tryz.func117.trans (congrArg some (by kernel_rfl))
  f173 := Tryz.func94.trans (congrArg some (by kernel_rfl))
  f246 := Tryz.func102.trans (congrArg some (by kernel_rfl))
  f283 := Tryz.func107.trans (congrArg some (by kernel_rfl))
  f284 := Tryz.func108.trans (congrArg some (by kernel_rfl))
  f285 := Tryz.func109.trans (congrArg some (by kernel_rfl))
  f286 := Tryz.func110.trans (congrArg some (by kernel_rfl))
  f317 := Tryz.func116.trans (congrArg some (by kernel_rfl))
  f318 := Tryz.func118.trans (congrArg some (by kernel_rfl))
  f319 := Tryz.func119.trans (congrArg some (by kernel_rfl))
  f320 := Tryz.func120.trans (congrArg some (by kernel_rfl))
  f337 := Tryz.func127.trans (congrArg some (by kernel_rfl))
  f338 := Tryz.func128.trans (congrArg some (by kernel_rfl))
  t0 := Tryz.underlying0
  a0 := Tryz.isAgg0
  z0 := Tryz.sizeOf0
  v0 := Tryz.zeroValue0
  t2 := Tryz.underlying2
  a2 := Tryz.isAgg2
  z2 := Tryz.sizeOf2
  v2 := Tryz.zeroValue2
  t3 := Tryz.underlying3
  a3 := Tryz.isAgg3
  z3 := Tryz.sizeOf3
  v3 := Tryz.zeroValue3
  t4 := Tryz.underlying4
  a4 := Tryz.isAgg4
  z4 := Tryz.sizeOf4
  v4 := Tryz.zeroValue4
  t5 := Tryz.underlying5
  a5 := Tryz.isAgg5
  z5 := Tryz.sizeOf5
  v5 := Tryz.zeroValue5
  t9 := Tryz.underlying9
  a9 := Tryz.isAgg9
  z9 := Tryz.sizeOf9
  v9 := Tryz.zeroValue9
  t20 := Tryz.underlying20
  a20 := Tryz.isAgg20
  z20 := Tryz.sizeOf20
  v20 := Tryz.zeroValue20
  t37 := Tryz.underlying105
  a37 := Tryz.isAgg105
  z37 := Tryz.sizeOf105
  v37 := Tryz.zeroValue105
  t46 := Tryz.underlying164
  a46 := Tryz.isAgg164
  z46 := Tryz.sizeOf164
  v46 := Tryz.zeroValue164
  t51 := Tryz.underlying195
  a51 := Tryz.isAgg195
  z51 := Tryz.sizeOf195
  v51 := Tryz.zeroValue195
  t53 := Tryz.underlying127
  a53 := Tryz.isAgg127
  z53 := Tryz.sizeOf127
  v53 := Tryz.zeroValue127
  t171 := Tryz.underlying181
  a171 := Tryz.isAgg181
  z171 := Tryz.sizeOf181
  v171 := Tryz.zeroValue181
  t173 := Tryz.underlying184
  a173 := Tryz.isAgg184
  z173 := Tryz.sizeOf184
  v173 := Tryz.zeroValue184
  t212 := Tryz.underlying194
  a212 := Tryz.isAgg194
  z212 := Tryz.sizeOf194
  v212 := Tryz.zeroValue194
  t213 := Tryz.underlying196
  a213 := Tryz.isAgg196
  z213 := Tryz.sizeOf196
  t232 := Tryz.underlying204
  a232 := Tryz.isAgg204
  z232 := Tryz.sizeOf204
  v232 := Tryz.zeroValue204
  t233 := Tryz.underlying205
  a233 := Tryz.isAgg205
  z233 := Tryz.sizeOf205
  v233 := Tryz.zeroValue205
  g17 := by kernel_rfl
  g18 := by kernel_rfl
  g19 := by kernel_rfl
  i0 := by kernel_rfl
  i2 := by kernel_rfl
  i3 := by kernel_rfl
  i4 := by kernel_rfl
  i5 := by kernel_rfl
  i9 := by kernel_rfl
  i20 := by kernel_rfl
  i37 := by kernel_rfl
  i46 := by kernel_rfl
  i51 := by kernel_rfl
  i53 := by kernel_rfl
  i171 := by kernel_rfl
  i173 := by kernel_rfl
  i212 := by kernel_rfl
  i232 := by kernel_rfl
  i233 := by kernel_rfl
  m17 := by kernel_rfl
  m18 := by kernel_rfl
  m19 := by kernel_rfl }
def Tryz.laysJoin_ren : Go.Shelf.Ren := ⟨fun | 156 => 30 | 165 => 45 | 166 => 46 | 169 => 47 | 240 => 68 | 241 => 69 | 276 => 77 | 277 => 78 | n => n, fun | 31 => 82 | 9 => 9 | 3 => 3 | 4 => 4 | 0 => 0 | 20 => 20 | 72 => 107 | 76 => 111 | 70 => 104 | 37 => 105 | 75 => 110 | 127 => 138 | 164 => 150 | 5 => 5 | 80 => 113 | n => n, fun | n => n⟩
theorem Tryz.laysJoin : Go.Proofs.Lays.n156 Tryz.prog Tryz.laysJoin_ren := {
  mixed := by kernel_rfl
  f156 := Tryz.func30.trans (congrArg some (by kernel_rfl))
  f165 := Tryz.func45.trans (congrArg some (by kernel_rfl))
  f166 := Tryz.func46.trans (congrArg some (by kernel_rfl))
  f169 := Tryz.func47.trans (congrArg some (by kernel_rfl))
  f240 := Tryz.func68.trans (congrArg some (by kernel_rfl))
  f241 := Tryz.func69.trans (congrArg some (by kernel_rfl))
  f276 := Tryz.func77.trans (congrArg some (by kernel_rfl))
  f277 := Tryz.func78.trans (congrArg some (by kernel_rfl))
  t0 := Tryz.underlying0
  a0 := Tryz.isAgg0
  z0 := Tryz.sizeOf0
  v0 := Tryz.zeroValue0
  t3 := Tryz.underlying3
  a3 := Tryz.isAgg3
  z3 := Tryz.sizeOf3
  v3 := Tryz.zeroValue3
  t4 := Tryz.underlying4
  a4 := Tryz.isAgg4
  z4 := Tryz.sizeOf4
  v4 := Tryz.zeroValue4
  t9 := Tryz.underlying9
  a9 := Tryz.isAgg9
  z9 := Tryz.sizeOf9
  v9 := Tryz.zeroValue9
  t20 := Tryz.underlying20
  a20 := Tryz.isAgg20
  z20 := Tryz.sizeOf20
  v20 := Tryz.zeroValue20
  t31 := Tryz.underlying82
  a31 := Tryz.isAgg82
  z31 := Tryz.sizeOf82
  v31 := Tryz.zeroValue82
  t37 := Tryz.underlying105
  a37 := Tryz.isAgg105
  z37 := Tryz.sizeOf105
  v37 := Tryz.zeroValue105
  t70 := Tryz.underlying104
  a70 := Tryz.isAgg104
  z70 := Tryz.sizeOf104
  v70 := Tryz.zeroValue104
  t72 := Tryz.underlying107
  a72 := Tryz.isAgg107
  z72 := Tryz.sizeOf107
  v72 := Tryz.zeroValue107
  t75 := Tryz.underlying110
  a75 := Tryz.isAgg110
  z75 := Tryz.sizeOf110
  v75 := Tryz.zeroValue110
  t76 := Tryz.underlying111
  a76 := Tryz.isAgg111
  z76 := Tryz.sizeOf111
  v76 := Tryz.zeroValue111
  t127 := Tryz.underlying138
  a127 := Tryz.isAgg138
  z127 := Tryz.sizeOf138
  v127 := Tryz.zeroValue138
  t164 := Tryz.underlying150
  a164 := Tryz.isAgg150
  z164 := Tryz.sizeOf150
  v164 := Tryz.zeroValue150 }
theorem Tryz.joinExtra : Go.Proofs.Builder.Extra Tryz.prog Tryz.laysJoin_ren := {
  sizeBuilder := by kernel_rfl
  liesBuilder := by kernel_rfl
  t5 := Tryz.underlying5
  a5 := Tryz.isAgg5
  z5 := Tryz.sizeOf5
  v5 := Tryz.zeroValue5
  infoByte := by kernel_rfl
  cellsByte := by kernel_rfl
  sizeByte := by kernel_rfl
  neB5 := by decide }
end Go.Proofs
namespace Go.Proofs.YtllpacppedobjaaGreatDoor
open Go.RowKit
set_option linter.unusedSimpArgs false
set_option linter.unusedVariables false
theorem Only.drewN {bs : Nat → Prop} {a w : World} (h : Only bs a w) (n : Nat) : Only bs a (w.drewN n) := ⟨h.os, h.tape, h.output, h.size, h.block⟩
section
variable {P : Program} {n l : Nat} {ops : Array Oper} {op : Oper} {a : Act} {w w' : World} {K : Act → World → Prop} {Q : Exit → Act → World → Prop}
theorem wp_call_func {f : Nat} (args : Array Operand) (tys : Array TypeId) (ho : op.op = .call { callee := .value (.func f), args := args, argTypes := tys }) (vs : Array Value) (hvs : args.map a.eval = vs) (he : ∀ args w, (callFunc f args).run P w = .ok (.enter f args) w)
    {R : Ending → World → Prop} (hc : Calls P f vs w R) (hR : ∀ e w', R e w' → ∃ v, e = .returned v ∧ K (a.put op.dst v) w') : op.wp P a w K Q := by
  have hr : (execOp a.eval op).run P w = .ok (.enter f vs) w := by
    simp [execOp, ho, resolve, invoke, go_sem, he, hvs, Result.andThen]
  unfold Oper.wp
  rw [hr, Oper.upon_enter]
  refine hc.mono fun e w' h => ?_
  obtain ⟨v, rfl, hk⟩ := hR e w' h
  exact hk
end
end Go.Proofs.YtllpacppedobjaaGreatDoor
