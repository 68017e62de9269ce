/- Copies of values: copied, copiedItem, Copy. The numbers by which the library's contracts on strconv.FormatInt and strings.Join stand over this program. What stands for a text: Quoted. The text of a value that holds no others, as parse writes it. value.Text of the number 7. -/
import Derived.Test.YtdfbnnephfoboaaGreatDoorGai
import Derived.Test.YtdfbnnephfoboaaGreatDoorGah
import Derived.Test.YtdfbnnephfoboaaGreatDoorGaf
import Derived.Shelf.Strconv.Itoa4
import Derived.Shelf.Strings.OnBuilder
import Derived.Test.YtdfbnnephfoboaaGreatDoorProg
import Derived.Test.YtdfbnnephfoboaaGreatDoorGag
import Derived.Test.YtdfbnnephfoboaaGreatDoorGad
import Derived.Lib.ItoaLen
import Derived.Test.YtdfbnnephfoboaaGreatDoorGae
namespace Go.Proofs.YtdfbnnephfoboaaGreatDoor
open Go.RowKit Go.Lib
set_option linter.unusedSimpArgs false
set_option linter.unusedVariables false
theorem PsAt.only {w w' : World} {S bs : Nat → Prop} {d : Nat} {i : Bool} {l : List Vt} {ao : Option Addr} (h : PsAt w S d i l ao) (o : Only bs w w') (hb : ∀ b, S b → ¬ bs b) : PsAt w' S d i l ao := fun j x hx => by
  obtain ⟨g, q, u, h1, h2, h3, h4⟩ := h j x hx
  exact ⟨g, q, u, h1, h2, o.cell h3 (hb g h2), h4.only o hb⟩
theorem ps_nil {w : World} {S : Nat → Prop} {d : Nat} {i : Bool} {l : List Vt} {ao : Option Addr} (h : PsAt w S d i l ao) (e : ao = none) : l = [] := by
  cases l with
  | nil => rfl
  | cons x r =>
    obtain ⟨g, q, u, h1, _⟩ := h 0 x rfl
    rw [e] at h1
    cases h1
set_option maxRecDepth 100000 in
theorem cp_other (T : TypeId) (x : Value) (hL : T ≠ 80) (hQ : T ≠ 82) (w : World) : Calls Tryz.prog 38 #[.iface T x] w fun e w' => e = .returned (.iface T x) ∧ Only (fun _ => False) w w' := by
  have mList := va_miss T 80 27 _ Tryz.underlying80 (by intro m h; cases h) hL _ zL
  have mQuot := va_miss T 82 27 _ Tryz.underlying82 (by intro m h; cases h) hQ _ zQ
  have O : Hid (Only (fun _ => False) w w) := Only.refl _ _
  clear hL hQ
  go_enter Tryz.func38, Tryz.ntmps38
  go_wp2
  go_ret
  exact ⟨rfl, by repeat' first | exact O.out | apply Only.alloc⟩
set_option maxRecDepth 100000 in
theorem cp_nil (w : World) : Calls Tryz.prog 38 #[.nilIface] w fun e w' => e = .returned .nilIface ∧ Only (fun _ => False) w w' := by
  have mList := uas_nil 80 27 _ Tryz.underlying80 (by intro m h; cases h) _ zL
  have mQuot := uas_nil 82 27 _ Tryz.underlying82 (by intro m h; cases h) _ zQ
  have O : Hid (Only (fun _ => False) w w) := Only.refl _ _
  go_enter Tryz.func38, Tryz.ntmps38
  go_wp2
  go_ret
  exact ⟨rfl, by repeat' first | exact O.out | apply Only.alloc⟩
set_option maxRecDepth 100000 in
theorem cp_v (d : Nat) (H : CeC d false 38 59) (l : List Vt) (ao : Option Addr) (cap : Nat) (w : World) (S : Nat → Prop) (hl : PsAt w S d false l ao) (hS : ∀ b, S b → b < w.heap.size) (hsm : ∀ x ∈ l, ∃ e, SmT e x) (hlen : l.length ≤ 2600000000000) :
    Calls Tryz.prog 38 #[.iface 80 (.agg #[.slice ao l.length cap])] w fun e w' => ∃ ao' cap', e = .returned (.iface 80 (.agg #[.slice ao' l.length cap'])) ∧ Hid (l.length ≤ cap' ∧ (∃ S', PsAt w' S' d false l ao' ∧ ∀ b, S' b → w.heap.size ≤ b ∧ b < w'.heap.size) ∧ Only (fun _ => False) w w') := by
  have HC : Hid (∀ w1, Only (fun _ => False) w w1 → Calls Tryz.prog 59 #[.slice ao l.length cap, .func (.func 38) #[] #[]] w1 fun e w' => ∃ ao' cap', e = .returned (.slice ao' l.length cap') ∧ Hid (l.length ≤ cap' ∧ (∃ S', PsAt w' S' d false l ao' ∧ ∀ b, S' b → w.heap.size ≤ b ∧ b < w'.heap.size) ∧ Only (fun _ => False) w w')) := fun w1 o1 => by
    refine (H l ao cap w1 S (hl.only o1 (fun _ _ g => g)) (fun b hb => Nat.lt_of_lt_of_le (hS b hb) o1.size) hsm hlen (ps_nil hl)).mono fun e w' g => ?_
    obtain ⟨ao', cap', he, g⟩ := g
    obtain ⟨g1, ⟨S', g2, g3⟩, g4⟩ := g.out
    exact ⟨ao', cap', he, g1, ⟨S', g2, fun b hb => ⟨Nat.le_trans o1.size (g3 b hb).1, (g3 b hb).2⟩⟩, o1.trans g4 (fun _ _ g => g)⟩
  have hList := va_hit 80 27 _ Tryz.underlying80 (by intro m h; cases h)
  have O : Hid (Only (fun _ => False) w w) := Only.refl _ _
  obtain ⟨N, hN⟩ : ∃ N, N = l.length := ⟨_, rfl⟩
  rw [← hN] at HC ⊢
  clear hl hS hsm hlen hN H
  go_enter Tryz.func38, Tryz.ntmps38
  go_wp2_with fail
  refine (show Calls Tryz.prog 59 _ _ _ from HC.out _ (by repeat' first | exact O.out | apply Only.alloc)).mono ?_
  rintro e w1 ⟨ao', cap', rfl, G⟩
  clear HC O
  go_wp2
  go_ret
  exact ⟨ao', cap', rfl, G⟩
set_option maxRecDepth 100000 in
theorem cp_i (d : Nat) (H : CeC d true 61 60) (l : List Vt) (ao : Option Addr) (cap : Nat) (w : World) (S : Nat → Prop) (hl : PsAt w S d true l ao) (hS : ∀ b, S b → b < w.heap.size) (hsm : ∀ x ∈ l, ∃ e, SmT e x) (hlen : l.length ≤ 2600000000000) :
    Calls Tryz.prog 38 #[.iface 82 (.agg #[.slice ao l.length cap])] w fun e w' => ∃ ao' cap', e = .returned (.iface 82 (.agg #[.slice ao' l.length cap'])) ∧ Hid (l.length ≤ cap' ∧ (∃ S', PsAt w' S' d true l ao' ∧ ∀ b, S' b → w.heap.size ≤ b ∧ b < w'.heap.size) ∧ Only (fun _ => False) w w') := by
  have HC : Hid (∀ w1, Only (fun _ => False) w w1 → Calls Tryz.prog 60 #[.slice ao l.length cap, .func (.func 61) #[] #[]] w1 fun e w' => ∃ ao' cap', e = .returned (.slice ao' l.length cap') ∧ Hid (l.length ≤ cap' ∧ (∃ S', PsAt w' S' d true l ao' ∧ ∀ b, S' b → w.heap.size ≤ b ∧ b < w'.heap.size) ∧ Only (fun _ => False) w w')) := fun w1 o1 => by
    refine (H l ao cap w1 S (hl.only o1 (fun _ _ g => g)) (fun b hb => Nat.lt_of_lt_of_le (hS b hb) o1.size) hsm hlen (ps_nil hl)).mono fun e w' g => ?_
    obtain ⟨ao', cap', he, g⟩ := g
    obtain ⟨g1, ⟨S', g2, g3⟩, g4⟩ := g.out
    exact ⟨ao', cap', he, g1, ⟨S', g2, fun b hb => ⟨Nat.le_trans o1.size (g3 b hb).1, (g3 b hb).2⟩⟩, o1.trans g4 (fun _ _ g => g)⟩
  have mList := va_miss 82 80 27 _ Tryz.underlying80 (by intro m h; cases h) (by decide) _ zL
  have hQuot := va_hit 82 27 _ Tryz.underlying82 (by intro m h; cases h)
  have O : Hid (Only (fun _ => False) w w) := Only.refl _ _
  obtain ⟨N, hN⟩ : ∃ N, N = l.length := ⟨_, rfl⟩
  rw [← hN] at HC ⊢
  clear hl hS hsm hlen hN H
  go_enter Tryz.func38, Tryz.ntmps38
  go_wp2_with fail
  refine (show Calls Tryz.prog 60 _ _ _ from HC.out _ (by repeat' first | exact O.out | apply Only.alloc)).mono ?_
  rintro e w1 ⟨ao', cap', rfl, G⟩
  clear HC O
  go_wp2
  go_ret
  exact ⟨ao', cap', rfl, G⟩
theorem cp_of (d : Nat) (H1 : CpC d false 38) (H2 : CpC d true 61) : CpC (d + 1) false 38 := by
  intro t v w S h hsm hS
  have leaf : ∀ w', TiAt w' (fun _ => False) (d + 1) false t v → Only (fun _ => False) w w' → ∃ v', (Ending.returned v) = .returned v' ∧ Hid (NiAt w' w.heap.size (d + 1) false t v' ∧ Only (fun _ => False) w w') := fun w' ht o => ⟨v, rfl, ⟨_, ht, fun b hb => hb.elim⟩, o⟩
  rcases h with ⟨h1, h2, rfl⟩ | ⟨h1, h2, rfl⟩ | ⟨h1, h2, rfl⟩ | ⟨h1, h2, rfl⟩ | ⟨h1, h2, rfl⟩ | ⟨h1, ao, cap, rfl, hc, hl⟩
  · exact (cp_other _ _ (by decide) (by decide) w).mono fun e w' g => by obtain ⟨rfl, o⟩ := g; exact leaf w' (.inl ⟨h1, h2, rfl⟩) o
  · exact (cp_other _ _ (by decide) (by decide) w).mono fun e w' g => by obtain ⟨rfl, o⟩ := g; exact leaf w' (.inr (.inl ⟨h1, h2, rfl⟩)) o
  · exact (cp_other _ _ (by decide) (by decide) w).mono fun e w' g => by obtain ⟨rfl, o⟩ := g; exact leaf w' (.inr (.inr (.inl ⟨h1, h2, rfl⟩))) o
  · exact (cp_other _ _ (by decide) (by decide) w).mono fun e w' g => by obtain ⟨rfl, o⟩ := g; exact leaf w' (.inr (.inr (.inr (.inl ⟨h1, h2, rfl⟩)))) o
  · exact (cp_nil w).mono fun e w' g => by obtain ⟨rfl, o⟩ := g; exact leaf w' (.inr (.inr (.inr (.inr (.inl ⟨h1, h2, rfl⟩))))) o
  · obtain ⟨e, hs⟩ := hsm
    have hlen := hs.len
    have hparts := hs.parts
    by_cases h4 : t.k = 4
    · rw [if_pos h4]
      rw [show decide (t.k = 5) = false by simp [h4]] at hl
      refine (cp_v d (ce_v d H1) t.l ao cap w S hl hS hparts hlen).mono fun e w' g => ?_
      obtain ⟨ao', cap', rfl, g⟩ := g
      obtain ⟨g1, ⟨S', g2, g3⟩, g4⟩ := g.out
      refine ⟨_, rfl, ⟨S', .inr (.inr (.inr (.inr (.inr ⟨h1, ao', cap', by rw [if_pos h4], g1, ?_⟩)))), g3⟩, g4⟩
      rw [show decide (t.k = 5) = false by simp [h4]]
      exact g2
    · have h5 : t.k = 5 := by rcases h1 with g | g; exact absurd g h4; exact g
      rw [if_neg h4]
      rw [show decide (t.k = 5) = true by simp [h5]] at hl
      refine (cp_i d (ce_i d H2) t.l ao cap w S hl hS hparts hlen).mono fun e w' g => ?_
      obtain ⟨ao', cap', rfl, g⟩ := g
      obtain ⟨g1, ⟨S', g2, g3⟩, g4⟩ := g.out
      refine ⟨_, rfl, ⟨S', .inr (.inr (.inr (.inr (.inr ⟨h1, ao', cap', by rw [if_neg h4], g1, ?_⟩)))), g3⟩, g4⟩
      rw [show decide (t.k = 5) = true by simp [h5]]
      exact g2
set_option maxRecDepth 100000 in
theorem ci_call (s : ByteArray) (w : World) : Calls Tryz.prog 61 #[.iface 111 (.agg #[.string s])] w fun e w' => e = .returned (.iface 111 (.agg #[.string s])) ∧ Only (fun _ => False) w w' := by
  have mP := va_miss 111 108 94 _ Tryz.underlying108 (by intro m h; cases h) (by decide) _ vzero_Push
  have O : Hid (Only (fun _ => False) w w) := Only.refl _ _
  go_enter Tryz.func61, Tryz.ntmps61
  go_wp2
  go_ret
  exact ⟨rfl, by repeat' first | exact O.out | apply Only.alloc⟩
set_option maxRecDepth 100000 in
theorem ci_nil (w : World) : Calls Tryz.prog 61 #[.nilIface] w fun e w' => e = .returned .nilIface ∧ Only (fun _ => False) w w' := by
  have mP := uas_nil 108 94 _ Tryz.underlying108 (by intro m h; cases h) _ vzero_Push
  have O : Hid (Only (fun _ => False) w w) := Only.refl _ _
  go_enter Tryz.func61, Tryz.ntmps61
  go_wp2
  go_ret
  exact ⟨rfl, by repeat' first | exact O.out | apply Only.alloc⟩
set_option maxRecDepth 100000 in
theorem ci_push (u : Value) (Q : Value → World → Prop) (w : World) (hu : u = .nilIface ∨ ∃ T y, u = .iface T y) (HC0 : ∀ w1, Only (fun _ => False) w w1 → Calls Tryz.prog 38 #[u] w1 fun e w' => ∃ v', e = .returned v' ∧ (v' = .nilIface ∨ ∃ T y, v' = .iface T y) ∧ Hid (Q v' w')) : Calls Tryz.prog 61 #[.iface 108 (.agg #[u])] w fun e w' => ∃ v', e = .returned (.iface 108 (.agg #[v'])) ∧ Hid (Q v' w') := by
  have mP := va_hit 108 94 _ Tryz.underlying108 (by intro m h; cases h)
  have HC : Hid _ := HC0
  have O : Hid (Only (fun _ => False) w w) := Only.refl _ _
  clear HC0
  rcases hu with rfl | ⟨T, y, rfl⟩
  all_goals
    go_enter Tryz.func61, Tryz.ntmps61
    go_wp2_with fail
    refine (show Calls Tryz.prog 38 _ _ _ from HC.out _ (by repeat' first | exact O.out | apply Only.alloc)).mono ?_
    rintro e w1 ⟨v', rfl, hv, G⟩
    clear HC O
    rcases hv with rfl | ⟨T', y', rfl⟩
    all_goals
      go_wp2
      go_ret
      exact ⟨_, rfl, G⟩
theorem ci_of (d : Nat) (H : CpC d false 38) : CpC (d + 1) true 61 := by
  intro t v w S h hsm hS
  rcases h with ⟨h1, h2, rfl⟩ | ⟨h1, h2, rfl⟩ | ⟨h1, h2, u, rfl, hu⟩
  · exact (ci_call _ w).mono fun e w' g => by obtain ⟨rfl, o⟩ := g; exact ⟨_, rfl, ⟨fun _ => False, .inl ⟨h1, h2, rfl⟩, fun b hb => hb.elim⟩, o⟩
  · exact (ci_nil w).mono fun e w' g => by obtain ⟨rfl, o⟩ := g; exact ⟨_, rfl, ⟨fun _ => False, .inr (.inl ⟨h1, h2, rfl⟩), fun b hb => hb.elim⟩, o⟩
  · refine (ci_push u (fun v' w' => NiAt w' w.heap.size d false t v' ∧ Only (fun _ => False) w w') w hu.shape2 (fun w1 o1 => ?_)).mono fun e w' g => ?_
    · refine (H t u w1 S (hu.only o1 (fun _ _ g => g)) hsm (fun b hb => Nat.lt_of_lt_of_le (hS b hb) o1.size)).mono fun e w' g => ?_
      obtain ⟨v', he, g⟩ := g
      exact ⟨v', he, (by obtain ⟨_, t, _⟩ := g.out.1; exact t.shape2), g.out.1.lower o1.size, o1.trans g.out.2 (fun _ _ g => g)⟩
    · obtain ⟨v', rfl, g⟩ := g
      obtain ⟨⟨S', g1, g2⟩, g3⟩ := g.out
      exact ⟨_, rfl, ⟨S', .inr (.inr ⟨h1, h2, v', rfl, g1⟩), g2⟩, g3⟩
theorem cp_all : ∀ (D d : Nat), d < D → CpC d false 38 ∧ CpC d true 61
  | 0, d, h => by omega
  | D + 1, d, h => by
    cases d with
    | zero => exact ⟨fun t v w0 S h => h.elim, fun t v w0 S h => h.elim⟩
    | succ d =>
      have ih := cp_all D d (by omega)
      exact ⟨cp_of d ih.1 ih.2, ci_of d ih.1⟩
/-- what Copy answers -/
def CoP (Z : Bool) (d : Nat) (t : Vt) (w : World) (e : Ending) (w' : World) : Prop := ∃ v', e = .returned (.tuple #[v', .int .i64 (if Z then 0 else 1)]) ∧ (Z = true → NiAt w' w.heap.size d false t v') ∧ (Z = false → v' = .nilIface) ∧ Only (fun _ => False) w w'
set_option maxRecDepth 100000 in
theorem vcopy_any {d : Nat} {t : Vt} {v : Value} {w : World} {S : Nat → Prop} (h : TiAt w S d false t v) (hS : ∀ b, S b → b < w.heap.size) (hsm : ∃ e, SmT e t) (hT : Tb w) : Calls Tryz.prog 17 #[v] w fun e w' => CoP (sdB d t) d t w e w' := by
  have HC : Hid _ := vcheck_any h hS hsm hT
  have HK : Hid (∀ w1, Only (fun _ => False) w w1 → Calls Tryz.prog 38 #[v] w1 fun e w' => ∃ v', e = .returned v' ∧ Hid (NiAt w' w.heap.size d false t v' ∧ Only (fun _ => False) w w')) := fun w1 o1 => by
    refine ((cp_all (d + 1) d (by omega)).1 t v w1 S (h.only o1 (fun _ _ g => g)) hsm (fun b hb => Nat.lt_of_lt_of_le (hS b hb) o1.size)).mono fun e w' g => ?_
    obtain ⟨v', he, g⟩ := g
    exact ⟨v', he, g.out.1.lower o1.size, o1.trans g.out.2 (fun _ _ g => g)⟩
  cases hZ : sdB d t with
  | false =>
    rw [hZ] at HC
    have HP : Hid (∀ w', Only (fun _ => False) w w' → CoP false d t w (.returned (.tuple #[.nilIface, .int .i64 1])) w') := fun w' o => ⟨_, rfl, fun g => (by cases g), fun _ => rfl, o⟩
    clear h hS hsm hT hZ HK
    go_enter Tryz.func17, Tryz.ntmps17
    go_wp2_with fail
    refine (show Calls Tryz.prog 12 _ _ _ from HC.out).mono ?_
    rintro e w1 ⟨rfl, o1⟩
    have O1 : Hid (Only (fun _ => False) w w1) := o1
    clear HC o1
    go_wp2
    go_ret2
    exact HP.out _ O1.out
  | true =>
    rw [hZ] at HC
    have HP : Hid (∀ v' w', NiAt w' w.heap.size d false t v' → Only (fun _ => False) w w' → CoP true d t w (.returned (.tuple #[v', .int .i64 0])) w') := fun v' w' hn o => ⟨_, rfl, fun _ => hn, fun g => (by cases g), o⟩
    clear h hS hsm hT hZ
    go_enter Tryz.func17, Tryz.ntmps17
    go_wp2_with fail
    refine (show Calls Tryz.prog 12 _ _ _ from HC.out).mono ?_
    rintro e w1 ⟨rfl, o1⟩
    have O1 : Hid (Only (fun _ => False) w w1) := o1
    clear HC o1
    go_wp2_with fail
    refine (show Calls Tryz.prog 38 _ _ _ from HK.out _ O1.out).mono ?_
    rintro e w2 ⟨v', rfl, G2⟩
    clear HK O1
    go_wp2
    go_ret2
    exact HP.out _ _ G2.out.1 G2.out.2
end Go.Proofs.YtdfbnnephfoboaaGreatDoor
namespace Go.Proofs
open Go.Shelf
def Tryz.laysFmt_ren : Go.Shelf.Ren := ⟨fun | 173 => 118 | 246 => 126 | 283 => 131 | 284 => 132 | 285 => 133 | 286 => 134 | 129 => 141 | 317 => 140 | 318 => 142 | 319 => 143 | 320 => 144 | 337 => 151 | 338 => 152 | n => n, fun | 2 => 2 | 3 => 3 | 9 => 9 | 4 => 4 | 171 => 221 | 0 => 0 | 53 => 136 | 37 => 114 | 5 => 5 | 173 => 224 | 212 => 234 | 51 => 235 | 20 => 20 | 213 => 236 | 46 => 203 | 232 => 244 | 233 => 245 | n => n, fun | 17 => 3 | 18 => 5 | 19 => 6 | n => n⟩
theorem Tryz.laysFmt : Go.Proofs.LaysM.n173 Tryz.prog Tryz.laysFmt_ren := {
  mixed := by kernel_rfl
  f129 := Tryz.func141.trans (congrArg some (by kernel_rfl))
  f173 := Tryz.func118.trans (congrArg some (by kernel_rfl))
  f246 := Tryz.func126.trans (congrArg some (by kernel_rfl))
  f283 := Tryz.func131.trans (congrArg some (by kernel_rfl))
  f284 := Tryz.func132.trans (congrArg some (by kernel_rfl))
  f285 := Tryz.func133.trans (congrArg some (by kernel_rfl))
  f286 := Tryz.func134.trans (congrArg some (by kernel_rfl))
  f317 := Tryz.func140.trans (congrArg some (by kernel_rfl))
  f318 := Tryz.func142.trans (congrArg some (by kernel_rfl))
  f319 := Tryz.func143.trans (congrArg some (by kernel_rfl))
  f320 := Tryz.func144.trans (congrArg some (by kernel_rfl))
  f337 := Tryz.func151.trans (congrArg some (by kernel_rfl))
  f338 := Tryz.func152.trans (congrArg some (by kernel_rfl))
  t0 := Tryz.underlying0
  a0 := Tryz.isAgg0
  z0 := Tryz.sizeOf0
  v0 := Tryz.zeroValue0
  t2 := Tryz.underlying2
  a2 := Tryz.isAgg2
  z2 := Tryz.sizeOf2
  v2 := Tryz.zeroValue2
  t3 := Tryz.underlying3
  a3 := Tryz.isAgg3
  z3 := Tryz.sizeOf3
  v3 := Tryz.zeroValue3
  t4 := Tryz.underlying4
  a4 := Tryz.isAgg4
  z4 := Tryz.sizeOf4
  v4 := Tryz.zeroValue4
  t5 := Tryz.underlying5
  a5 := Tryz.isAgg5
  z5 := Tryz.sizeOf5
  v5 := Tryz.zeroValue5
  t9 := Tryz.underlying9
  a9 := Tryz.isAgg9
  z9 := Tryz.sizeOf9
  v9 := Tryz.zeroValue9
  t20 := Tryz.underlying20
  a20 := Tryz.isAgg20
  z20 := Tryz.sizeOf20
  v20 := Tryz.zeroValue20
  t37 := Tryz.underlying114
  a37 := Tryz.isAgg114
  z37 := Tryz.sizeOf114
  v37 := Tryz.zeroValue114
  t46 := Tryz.underlying203
  a46 := Tryz.isAgg203
  z46 := Tryz.sizeOf203
  v46 := Tryz.zeroValue203
  t51 := Tryz.underlying235
  a51 := Tryz.isAgg235
  z51 := Tryz.sizeOf235
  v51 := Tryz.zeroValue235
  t53 := Tryz.underlying136
  a53 := Tryz.isAgg136
  z53 := Tryz.sizeOf136
  v53 := Tryz.zeroValue136
  t171 := Tryz.underlying221
  a171 := Tryz.isAgg221
  z171 := Tryz.sizeOf221
  v171 := Tryz.zeroValue221
  t173 := Tryz.underlying224
  a173 := Tryz.isAgg224
  z173 := Tryz.sizeOf224
  v173 := Tryz.zeroValue224
  t212 := Tryz.underlying234
  a212 := Tryz.isAgg234
  z212 := Tryz.sizeOf234
  v212 := Tryz.zeroValue234
  t213 := Tryz.underlying236
  a213 := Tryz.isAgg236
  z213 := Tryz.sizeOf236
  t232 := Tryz.underlying244
  a232 := Tryz.isAgg244
  z232 := Tryz.sizeOf244
  v232 := Tryz.zeroValue244
  t233 := Tryz.underlying245
  a233 := Tryz.isAgg245
  z233 := Tryz.sizeOf245
  v233 := Tryz.zeroValue245
  g17 := by kernel_rfl
  g18 := by kernel_rfl
  g19 := by kernel_rfl
  i0 := by kernel_rfl
  i2 := by kernel_rfl
  i3 := by kernel_rfl
  i4 := by kernel_rfl
  i5 := by kernel_rfl
  i9 := by kernel_rfl
  i20 := by kernel_rfl
  i37 := by kernel_rfl
  i46 := by kernel_rfl
  i51 := by kernel_rfl
  i53 := by kernel_rfl
  i171 := by kernel_rfl
  i173 := by kernel_rfl
  i212 := by kernel_rfl
  i232 := by kernel_rfl
  i233 := by kernel_rfl
  m17 := by kernel_rfl
  m18 := by kernel_rfl
  m19 := by kernel_rfl }
def Tryz.laysJoin_ren : Go.Shelf.Ren := ⟨fun | 156 => 36 | 165 => 54 | 166 => 55 | 169 => 56 | 240 => 80 | 241 => 81 | 276 => 93 | 277 => 94 | n => n, fun | 31 => 90 | 9 => 9 | 3 => 3 | 4 => 4 | 0 => 0 | 20 => 20 | 72 => 116 | 76 => 120 | 70 => 113 | 37 => 114 | 75 => 119 | 127 => 150 | 164 => 164 | 5 => 5 | 80 => 122 | n => n, fun | n => n⟩
theorem Tryz.laysJoin : Go.Proofs.Lays.n156 Tryz.prog Tryz.laysJoin_ren := {
  mixed := by kernel_rfl
  f156 := Tryz.func36.trans (congrArg some (by kernel_rfl))
  f165 := Tryz.func54.trans (congrArg some (by kernel_rfl))
  f166 := Tryz.func55.trans (congrArg some (by kernel_rfl))
  f169 := Tryz.func56.trans (congrArg some (by kernel_rfl))
  f240 := Tryz.func80.trans (congrArg some (by kernel_rfl))
  f241 := Tryz.func81.trans (congrArg some (by kernel_rfl))
  f276 := Tryz.func93.trans (congrArg some (by kernel_rfl))
  f277 := Tryz.func94.trans (congrArg some (by kernel_rfl))
  t0 := Tryz.underlying0
  a0 := Tryz.isAgg0
  z0 := Tryz.sizeOf0
  v0 := Tryz.zeroValue0
  t3 := Tryz.underlying3
  a3 := Tryz.isAgg3
  z3 := Tryz.sizeOf3
  v3 := Tryz.zeroValue3
  t4 := Tryz.underlying4
  a4 := Tryz.isAgg4
  z4 := Tryz.sizeOf4
  v4 := Tryz.zeroValue4
  t9 := Tryz.underlying9
  a9 := Tryz.isAgg9
  z9 := Tryz.sizeOf9
  v9 := Tryz.zeroValue9
  t20 := Tryz.underlying20
  a20 := Tryz.isAgg20
  z20 := Tryz.sizeOf20
  v20 := Tryz.zeroValue20
  t31 := Tryz.underlying90
  a31 := Tryz.isAgg90
  z31 := Tryz.sizeOf90
  v31 := Tryz.zeroValue90
  t37 := Tryz.underlying114
  a37 := Tryz.isAgg114
  z37 := Tryz.sizeOf114
  v37 := Tryz.zeroValue114
  t70 := Tryz.underlying113
  a70 := Tryz.isAgg113
  z70 := Tryz.sizeOf113
  v70 := Tryz.zeroValue113
  t72 := Tryz.underlying116
  a72 := Tryz.isAgg116
  z72 := Tryz.sizeOf116
  v72 := Tryz.zeroValue116
  t75 := Tryz.underlying119
  a75 := Tryz.isAgg119
  z75 := Tryz.sizeOf119
  v75 := Tryz.zeroValue119
  t76 := Tryz.underlying120
  a76 := Tryz.isAgg120
  z76 := Tryz.sizeOf120
  v76 := Tryz.zeroValue120
  t127 := Tryz.underlying150
  a127 := Tryz.isAgg150
  z127 := Tryz.sizeOf150
  v127 := Tryz.zeroValue150
  t164 := Tryz.underlying164
  a164 := Tryz.isAgg164
  z164 := Tryz.sizeOf164
  v164 := Tryz.zeroValue164 }
theorem Tryz.joinExtra : Go.Proofs.Builder.Extra Tryz.prog Tryz.laysJoin_ren := {
  sizeBuilder := by kernel_rfl
  liesBuilder := by kernel_rfl
  t5 := Tryz.underlying5
  a5 := Tryz.isAgg5
  z5 := Tryz.sizeOf5
  v5 := Tryz.zeroValue5
  infoByte := by kernel_rfl
  cellsByte := by kernel_rfl
  sizeByte := by kernel_rfl
  neB5 := by decide }
end Go.Proofs
namespace Go.Proofs.YtdfbnnephfoboaaGreatDoor
open Go.RowKit Go.Lib
set_option linter.unusedSimpArgs false
set_option linter.unusedVariables false
theorem enL_snoc (l : List Nat) (r : Nat) : enL (l ++ [r]) = enL l ++ encodeRune (r : Int) := by simp [enL]
theorem enL_cells (l : List Nat) (r : Nat) : Lib.byteCells (enL (l ++ [r])) = Lib.byteCells (enL l) ++ runeCells (r : Int) := by rw [enL_snoc, Lib.byteCells_append, Lib.byteCells_encodeRune]
theorem enL_len (l : List Nat) (r : Nat) : (enL (l ++ [r])).length ≤ (enL l).length + 4 := by
  have := (runeCells_le (r : Int)).2
  rw [enL_snoc, List.length_append, ← runeCells_length]
  omega
theorem bu_new {w : World} {B b : Nat} (hB : B ≤ b) (h : w.heap[b]? = some (.cells #[.pointer none, .slice none 0 0] 116)) : Bu B b (Lib.byteCells (enL [])) w := .inl ⟨hB, _, h, ⟨rfl, .inl ⟨rfl, rfl⟩⟩, by simp [Value.ownBlock]⟩
theorem only_below {w w' : World} (h : Only (fun _ => False) w w') : Below w.heap.size w w' := ⟨h.os, h.tape, h.output, h.size, fun k hk => h.block k hk (fun g => g)⟩
/-- What stands for a character. -/
def quC (c : Nat) : List Nat := if c = 10 then [92, 110] else if c = 34 ∨ c = 92 then [92, c] else [c]
def quo (l : List Nat) : List Nat := l.flatMap quC
def quoR (s : ByteArray) : ByteArray × Int := if stR s < s.size then (⟨#[]⟩, 8) else if 4096 < s.size then (⟨#[]⟩, 11) else (tx ([34] ++ quo (rns s) ++ [34]), 0)
theorem enL_str : Lib.strCells ⟨#[92, 110]⟩ = Lib.byteCells (enL [92, 110]) := rfl
theorem quo_snoc (l : List Nat) (c : Nat) : quo (l ++ [c]) = quo l ++ quC c := by simp [quo]
theorem quC_len (c : Nat) : (enL (quC c)).length ≤ 8 := by
  have h : ∀ r : Nat, (encodeRune (r : Int)).length ≤ 4 := fun r => by rw [← runeCells_length]; exact (runeCells_le (r : Int)).2
  unfold quC
  split
  · decide
  · have h9 : (encodeRune 92).length ≤ 4 := h 92
    have := h c
    split <;> simp [enL] <;> omega
theorem quo_mid (l : List Nat) (c : Nat) (X : List Nat) : tx ([34] ++ quo (l ++ c :: X) ++ [34]) = tx ([34] ++ quo ((l ++ [c]) ++ X) ++ [34]) := by rw [List.append_assoc l [c] X]; rfl
set_option maxRecDepth 100000 in
set_option maxHeartbeats 400000 in
theorem quoted_any (s : ByteArray) (hs : s.size ≤ 1000000000000) (w : World) :
    Calls Tryz.prog 119 #[.string s] w fun e w' => e = .returned (.tuple #[.string (quoR s).1, .int .i64 (quoR s).2]) ∧ Hid (Below w.heap.size w w') := by
  have HS : Hid (∀ w1, Calls Tryz.prog 127 #[.string s] w1 fun e w' => e = .returned (.int .i64 (stR s : Nat)) ∧ Only (fun _ => False) w1 w') := fun w1 => stray_any s hs w1
  unfold quoR
  obtain ⟨z, hz⟩ : ∃ z, z = stR s := ⟨_, rfl⟩
  rw [← hz] at HS ⊢
  clear hz
  by_cases hb : z < s.size
  · rw [if_pos hb]
    have i2 : (z : Int) < (s.size : Int) := by omega
    go_enter Tryz.func119, Tryz.ntmps119
    go_wp2_with fail
    refine (show Calls Tryz.prog 127 _ _ _ from HS.out _).mono ?_
    rintro e w1 ⟨rfl, o1⟩
    have O1 : Hid (Below w.heap.size w w1) := only_below o1
    clear HS o1
    go_wp2
    go_ret2
    exact ⟨rfl, O1.out⟩
  · rw [if_neg hb]
    have i2 : ¬ (z : Int) < (s.size : Int) := by omega
    by_cases hl : 4096 < s.size
    · rw [if_pos hl]
      have i1 : (4096 : Int) < (s.size : Int) := by omega
      go_enter Tryz.func119, Tryz.ntmps119
      go_wp2_with fail
      refine (show Calls Tryz.prog 127 _ _ _ from HS.out _).mono ?_
      rintro e w1 ⟨rfl, o1⟩
      have O1 : Hid (Below w.heap.size w w1) := only_below o1
      clear HS o1
      go_wp2
      go_ret2
      exact ⟨rfl, O1.out⟩
    · rw [if_neg hl]
      have i1 : ¬ (4096 : Int) < (s.size : Int) := by omega
      have HX : Hid (∀ (B b : Nat) (out : List Nat) (r : Nat) (W : World), Vr r → Bu B b (Lib.byteCells (enL out)) W → (enL out).length ≤ 100000 → B ≤ W.heap.size → Calls Tryz.prog 128 #[.pointer (some ⟨b, 0, none⟩), .int .i32 (r : Int)] W fun e w' => ∃ q, e = .returned (.tuple #[q, .nilIface]) ∧ Bu B b (Lib.byteCells (enL (out ++ [r]))) w' ∧ Kept B b W w') := fun B b out r W hr hu hlen hB => by
        rw [enL_cells]
        exact writeRune_any B b _ r hr W hu (by rw [Lib.byteCells_length]; omega) hB
      have v34 : Hid (Vr 34) := .inl (by decide)
      have v92 : Hid (Vr 92) := .inl (by decide)
      obtain ⟨Z, hZ⟩ : ∃ Z, Z = tx ([34] ++ quo (rns s) ++ [34]) := ⟨_, rfl⟩
      have HZ : Hid (Z = tx ([34] ++ quo ((crs s s.size 0).map (·.2)) ++ [34])) := hZ
      rw [← hZ]
      clear hZ
      go_enter Tryz.func119, Tryz.ntmps119
      go_wp2_with fail
      refine (show Calls Tryz.prog 127 _ _ _ from HS.out _).mono ?_
      rintro e w1 ⟨rfl, o1⟩
      have O1 : Hid (Below w.heap.size w w1) := only_below o1
      clear HS o1
      obtain ⟨N, hN⟩ : ∃ N, N = w1.heap.size := ⟨_, rfl⟩
      have B1 : Hid (Bu w.heap.size N (Lib.byteCells (enL [])) (w1.alloc (.cells #[.pointer none, .slice none 0 0] 116)) ∧ Below w.heap.size w (w1.alloc (.cells #[.pointer none, .slice none 0 0] 116))) :=
        ⟨bu_new (by rw [hN]; exact O1.out.size) (alloc_at _ _ _ hN), O1.out.alloc O1.out.size _⟩
      go_wp2_with fail
      rw [← hN]
      clear hN
      refine (show Calls Tryz.prog 128 _ _ _ from HX.out w.heap.size N [] 34 _ v34.out B1.out.1 (by decide) B1.out.2.size).mono ?_
      rintro e w2 ⟨q, rfl, g1, g2, g3⟩
      have B2 : Hid (Bu w.heap.size N (Lib.byteCells (enL ([] ++ [34]))) w2 ∧ Below w.heap.size w w2) := ⟨g1, B1.out.2.trans g2⟩
      clear B1 O1 g1 g2 g3
      go_wp2
      obtain ⟨K, hK⟩ : ∃ K, K = w2.heap.size := ⟨_, rfl⟩
      have HNK : Hid (K ≠ N) := by
        have : N < w2.heap.size := by rcases B2.out.1 with h | h <;> exact h.lt
        show K ≠ N
        omega
      have B3 : Hid (Bu w.heap.size N (Lib.byteCells (enL ([34] ++ quo []))) (w2.iter s 0) ∧ (w2.iter s 0).heap[K]? = some (.stringIter s 0) ∧ Below w.heap.size w (w2.iter s 0)) := ⟨B2.out.1.alloc _, alloc_at _ _ _ hK, B2.out.2.alloc B2.out.2.size _⟩
      have HKw : Hid (w.heap.size ≤ K) := by show w.heap.size ≤ K; rw [hK]; exact B2.out.2.size
      rw [← hK]
      clear hK B2
      go_loopw [] (fun wr => ∃ (pos b : Nat) (l : List Nat), Hid (Bu w.heap.size N (Lib.byteCells (enL ([34] ++ quo l))) wr ∧ wr.heap[K]? = some (.stringIter s pos) ∧ Below w.heap.size w wr ∧ Z = tx ([34] ++ quo (l ++ (crs s b pos).map (·.2)) ++ [34]) ∧ s.size ≤ pos + b ∧ (enL ([34] ++ quo l)).length ≤ 1 + 8 * pos ∧ pos ≤ s.size)) (fun wr => s.size - wr.iterPos K)
      case atStart => exact ⟨0, s.size, [], B3.out.1, B3.out.2.1, B3.out.2.2, HZ.out, by omega, by decide, by omega⟩
      case round =>
        obtain ⟨pos, b, l, HI⟩ := hrel
        clear HZ B3
        by_cases hp : pos < s.size
        · have hnx : ∀ ty, (Instr.next (.pointer (some ⟨K, 0, none⟩)) true ty).run Tryz.prog wr = _ := fun ty => run_next_any_at wr K s pos ty HI.out.2.1 hp
          have hwd := wid_pos s pos hp
          have hwp := decode_wd s pos hp
          obtain ⟨b', hb', hcr⟩ := crs_go hp HI.out.2.2.2.2.1
          have hvr := decode_vr s pos
          have hdl := decode_le s pos
          obtain ⟨c, hc⟩ : ∃ c, c = (Utf8.decode s pos).1 := ⟨_, rfl⟩
          obtain ⟨wd, hw⟩ : ∃ c, c = (Utf8.decode s pos).2 := ⟨_, rfl⟩
          rw [← hc, ← hw] at hnx hcr
          rw [← hc] at hvr hdl
          rw [← hw] at hwd hwp
          have HV : Hid (Vr c) := hvr
          have hmp : wr.iterPos K = pos := by simp only [World.iterPos, HI.out.2.1]
          have HJ : Hid (Bu w.heap.size N (Lib.byteCells (enL ([34] ++ quo l))) (wr.iterAt K s (pos + wd)) ∧ (wr.iterAt K s (pos + wd)).heap[K]? = some (.stringIter s (pos + wd)) ∧ Below w.heap.size w (wr.iterAt K s (pos + wd)) ∧ Z = tx ([34] ++ quo (l ++ (c :: (crs s b' (pos + wd)).map (·.2))) ++ [34]) ∧ s.size ≤ pos + wd + b' ∧ (enL ([34] ++ quo l)).length ≤ 1 + 8 * pos) := by
            obtain ⟨j1, j2, j3, j4, j5, j6, j7⟩ := HI.out
            exact ⟨j1.iterAt j2 _, iterAt_heap _ _ _ _ _ j2, below_iterAt j3 HKw.out _ _, by rw [j4, hcr]; rfl, by omega, j6⟩
          have HT : Hid ((enL ([34] ++ quo (l ++ [c]))).length ≤ 1 + 8 * (pos + wd)) := by
            have j6 := HI.out.2.2.2.2.2.1
            have := quC_len c
            show _ ≤ _
            rw [quo_snoc, ← List.append_assoc, enL_app, List.length_append]
            omega
          have HT2 : Hid ((enL ([34] ++ quo l)).length ≤ 50000) := by
            have j6 := HI.out.2.2.2.2.2.1
            have j7 := HI.out.2.2.2.2.2.2
            show _ ≤ _
            omega
          clear HI hc hw hcr hb' hvr
          obtain ⟨W2, hW2⟩ : ∃ W2, W2 = wr.iterAt K s (pos + wd) := ⟨_, rfl⟩
          rw [← hW2] at hnx HJ
          clear hW2
          by_cases h10 : c = 10
          · have HQ : Hid (Lib.byteCells (enL ([34] ++ quo (l ++ [c]))) = Lib.byteCells (enL ([34] ++ quo l)) ++ Lib.strCells ⟨#[92, 110]⟩) := by
              show _ = _
              rw [quo_snoc, ← List.append_assoc, enL_app, Lib.byteCells_append, enL_str, h10]
              rfl
            have HR : Hid (Calls Tryz.prog 55 #[.pointer (some ⟨N, 0, none⟩), .string ⟨#[92, 110]⟩] W2 fun e w' => ∃ q, e = .returned (.tuple #[q, .nilIface]) ∧ Bu w.heap.size N (Lib.byteCells (enL ([34] ++ quo l)) ++ Lib.strCells ⟨#[92, 110]⟩) w' ∧ Kept w.heap.size N W2 w') := writeString_any w.heap.size N _ ⟨#[92, 110]⟩ W2 HJ.out.1 (by rw [Lib.byteCells_length]; have := HT2.out; show _ + 2 ≤ _; omega) HJ.out.2.2.1.size
            subst h10
            go_wp2_with fail
            refine (show Calls Tryz.prog 55 _ _ _ from HR.out).mono ?_
            rintro e W9 ⟨q9, rfl, g1, g2, g3⟩
            clear HR
            have HK : Hid (Bu w.heap.size N (Lib.byteCells (enL ([34] ++ quo (l ++ [10])))) W9 ∧ W9.heap[K]? = some (.stringIter s (pos + wd)) ∧ Below w.heap.size w W9 ∧ Z = tx ([34] ++ quo ((l ++ [10]) ++ (crs s b' (pos + wd)).map (·.2)) ++ [34]) ∧ s.size ≤ pos + wd + b' ∧ (enL ([34] ++ quo (l ++ [10]))).length ≤ 1 + 8 * (pos + wd) ∧ pos + wd ≤ s.size) :=
              ⟨by rw [HQ.out]; exact g1, g3.iter HJ.out.2.1 HNK.out, HJ.out.2.2.1.trans g2, HJ.out.2.2.2.1.trans (quo_mid l 10 _), HJ.out.2.2.2.2.1, HT.out, hwp⟩
            clear g1 g2 g3 HQ
            clear HJ
            go_wp2
            go_roundw
            case rel => exact ⟨pos + wd, b', l ++ [10], HK⟩
            case measure => have e1 : W9.iterPos K = pos + wd := by simp only [World.iterPos, HK.out.2.1]
                            omega
          · have i10 : ¬ (c : Int) = 10 := by omega
            by_cases h34 : c = 34 ∨ c = 92
            · have HQ : Hid (enL ([34] ++ quo (l ++ [c])) = enL ([34] ++ quo l ++ [92] ++ [c])) := by
                show _ = _
                rw [quo_snoc, quC, if_neg h10, if_pos h34]
                simp [List.append_assoc]
              have HC1 : Hid (Calls Tryz.prog 128 _ _ _) := HX.out w.heap.size N ([34] ++ quo l) 92 W2 v92.out HJ.out.1 (by have := HT2.out; show _ ≤ _; omega) HJ.out.2.2.1.size
              rcases h34 with h34 | h92
              · subst h34
                clear h10
                go_wp2_with fail
                refine (show Calls Tryz.prog 128 _ _ _ from HC1.out).mono ?_
                rintro e W8 ⟨q8, rfl, k1, k2, k3⟩
                have HB8 : Hid (Below w.heap.size w W8 ∧ W8.heap[K]? = some (.stringIter s (pos + wd))) := ⟨HJ.out.2.2.1.trans k2, k3.iter HJ.out.2.1 HNK.out⟩
                have HC2 : Hid (Calls Tryz.prog 128 _ _ _) := HX.out w.heap.size N ([34] ++ quo l ++ [92]) 34 W8 HV.out k1 (by have := HT2.out; have := enL_len ([34] ++ quo l) 92; show _ ≤ _; omega) HB8.out.1.size
                clear HC1 k1 k2 k3
                go_wp2_with fail
                refine (show Calls Tryz.prog 128 _ _ _ from HC2.out).mono ?_
                rintro e W9 ⟨q9, rfl, g1, g2, g3⟩
                have HK : Hid (Bu w.heap.size N (Lib.byteCells (enL ([34] ++ quo (l ++ [34])))) W9 ∧ W9.heap[K]? = some (.stringIter s (pos + wd)) ∧ Below w.heap.size w W9 ∧ Z = tx ([34] ++ quo ((l ++ [34]) ++ (crs s b' (pos + wd)).map (·.2)) ++ [34]) ∧ s.size ≤ pos + wd + b' ∧ (enL ([34] ++ quo (l ++ [34]))).length ≤ 1 + 8 * (pos + wd) ∧ pos + wd ≤ s.size) :=
                  ⟨by rw [HQ.out]; exact g1, g3.iter HB8.out.2 HNK.out, HB8.out.1.trans g2, HJ.out.2.2.2.1.trans (quo_mid l 34 _), HJ.out.2.2.2.2.1, HT.out, hwp⟩
                clear g1 g2 g3 HQ HC2 HB8
                clear HJ
                go_wp2
                go_roundw
                case rel => exact ⟨pos + wd, b', l ++ [34], HK⟩
                case measure => have e1 : W9.iterPos K = pos + wd := by simp only [World.iterPos, HK.out.2.1]
                                omega
              · subst h92
                clear h10
                go_wp2_with fail
                refine (show Calls Tryz.prog 128 _ _ _ from HC1.out).mono ?_
                rintro e W8 ⟨q8, rfl, k1, k2, k3⟩
                have HB8 : Hid (Below w.heap.size w W8 ∧ W8.heap[K]? = some (.stringIter s (pos + wd))) := ⟨HJ.out.2.2.1.trans k2, k3.iter HJ.out.2.1 HNK.out⟩
                have HC2 : Hid (Calls Tryz.prog 128 _ _ _) := HX.out w.heap.size N ([34] ++ quo l ++ [92]) 92 W8 HV.out k1 (by have := HT2.out; have := enL_len ([34] ++ quo l) 92; show _ ≤ _; omega) HB8.out.1.size
                clear HC1 k1 k2 k3
                go_wp2_with fail
                refine (show Calls Tryz.prog 128 _ _ _ from HC2.out).mono ?_
                rintro e W9 ⟨q9, rfl, g1, g2, g3⟩
                have HK : Hid (Bu w.heap.size N (Lib.byteCells (enL ([34] ++ quo (l ++ [92])))) W9 ∧ W9.heap[K]? = some (.stringIter s (pos + wd)) ∧ Below w.heap.size w W9 ∧ Z = tx ([34] ++ quo ((l ++ [92]) ++ (crs s b' (pos + wd)).map (·.2)) ++ [34]) ∧ s.size ≤ pos + wd + b' ∧ (enL ([34] ++ quo (l ++ [92]))).length ≤ 1 + 8 * (pos + wd) ∧ pos + wd ≤ s.size) :=
                  ⟨by rw [HQ.out]; exact g1, g3.iter HB8.out.2 HNK.out, HB8.out.1.trans g2, HJ.out.2.2.2.1.trans (quo_mid l 92 _), HJ.out.2.2.2.2.1, HT.out, hwp⟩
                clear g1 g2 g3 HQ HC2 HB8
                clear HJ
                go_wp2
                go_roundw
                case rel => exact ⟨pos + wd, b', l ++ [92], HK⟩
                case measure => have e1 : W9.iterPos K = pos + wd := by simp only [World.iterPos, HK.out.2.1]
                                omega
            · have h34' : ¬ (c : Int) = 34 := by omega
              have h92' : ¬ (c : Int) = 92 := by omega
              have HQ : Hid (enL ([34] ++ quo (l ++ [c])) = enL ([34] ++ quo l ++ [c])) := by
                show _ = _
                rw [quo_snoc, quC, if_neg h10, if_neg h34]
                simp [List.append_assoc]
              clear h34 h10
              go_wp2_with fail
              refine (show Calls Tryz.prog 128 _ _ _ from HX.out w.heap.size N ([34] ++ quo l) c _ HV.out HJ.out.1 (by have := HT2.out; show _ ≤ _; omega) HJ.out.2.2.1.size).mono ?_
              rintro e W9 ⟨q9, rfl, g1, g2, g3⟩
              have HK : Hid (Bu w.heap.size N (Lib.byteCells (enL ([34] ++ quo (l ++ [c])))) W9 ∧ W9.heap[K]? = some (.stringIter s (pos + wd)) ∧ Below w.heap.size w W9 ∧ Z = tx ([34] ++ quo ((l ++ [c]) ++ (crs s b' (pos + wd)).map (·.2)) ++ [34]) ∧ s.size ≤ pos + wd + b' ∧ (enL ([34] ++ quo (l ++ [c]))).length ≤ 1 + 8 * (pos + wd) ∧ pos + wd ≤ s.size) :=
                ⟨by rw [HQ.out]; exact g1, g3.iter HJ.out.2.1 HNK.out, HJ.out.2.2.1.trans g2, HJ.out.2.2.2.1.trans (quo_mid l c _), HJ.out.2.2.2.2.1, HT.out, hwp⟩
              clear g1 g2 g3 HQ
              clear HJ
              go_wp2
              go_roundw
              case rel => exact ⟨pos + wd, b', l ++ [c], HK⟩
              case measure => have e1 : W9.iterPos K = pos + wd := by simp only [World.iterPos, HK.out.2.1]
                              omega
        · have hnx : ∀ ty, (Instr.next (.pointer (some ⟨K, 0, none⟩)) true ty).run Tryz.prog wr = _ := fun ty => run_next_end_at wr K s pos ty HI.out.2.1 hp
          have HE : Hid (Z = tx ([34] ++ quo l ++ [34])) := by
            show Z = _
            rw [HI.out.2.2.2.1, crs_end hp, List.map_nil, List.append_nil]
          have HT2 : Hid ((enL ([34] ++ quo l)).length ≤ 50000) := by
            have j6 := HI.out.2.2.2.2.2.1
            have j7 := HI.out.2.2.2.2.2.2
            show _ ≤ _
            omega
          go_wp2_with fail
          refine (show Calls Tryz.prog 128 _ _ _ from HX.out w.heap.size N ([34] ++ quo l) 34 _ v34.out HI.out.1 (by have := HT2.out; show _ ≤ _; omega) HI.out.2.2.1.size).mono ?_
          rintro e W8 ⟨q9, rfl, g1, g2, g3⟩
          have HB : Hid (Below w.heap.size w W8) := HI.out.2.2.1.trans g2
          have HSt : Hid (Calls Tryz.prog 56 #[.pointer (some ⟨N, 0, none⟩)] W8 fun e w' => e = .returned (.string (tx ([34] ++ quo l ++ [34]))) ∧ (IsBuilderF 116 5 w.heap.size N (Lib.byteCells (enL ([34] ++ quo l ++ [34]))) w' ∧ Below w.heap.size W8 w' ∧ OthersKept 5 (some N) W8 w')) := Tryz.Builder_String_any_k w.heap.size N (enL ([34] ++ quo l ++ [34])) W8 g1 HB.out.size
          rw [← show Z = _ from HE.out] at HSt
          clear g1 g2 g3 HI
          go_wp2_with fail
          refine (show Calls Tryz.prog 56 _ _ _ from HSt.out).mono ?_
          rintro e W9 ⟨rfl, g1, g2, g3⟩
          have HB2 : Hid (Below w.heap.size w W9) := HB.out.trans g2
          clear HSt g1 g2 g3
          go_wp2
          go_ret2
          exact ⟨rfl, HB2.out⟩
end Go.Proofs.YtdfbnnephfoboaaGreatDoor
namespace Go.Proofs.YtdfbnnephfoboaaGreatDoor
open Go.RowKit Go.Lib
set_option linter.unusedSimpArgs false
set_option linter.unusedVariables false
/-- the table of the powers of ten, as it begins -/
def Pw (w : World) : Prop := Lib.TabIs Tryz.prog w "internal/strconv.uint64pow10" .u64 Lib.pow10Tab
def Tx (w : World) : Prop := Tb w ∧ Pw w
theorem Pw.frame {w w' : World} (h : Pw w) (o : Only (fun _ => False) w w') : Pw w' := by
  unfold Pw Lib.TabIs at *
  unfold World.var? at *
  cases hg : Tryz.prog.globalNamed "internal/strconv.uint64pow10" with
  | none => rw [hg] at h; simp at h
  | some g =>
    rw [hg] at h
    simp only [Option.bind_some] at h ⊢
    cases hb : w.heap[g]? with
    | none => rw [hb] at h; simp at h
    | some ob =>
      rw [hb] at h
      rw [o.block g (Array.getElem?_eq_some_iff.1 hb).1 (fun g => g), hb]
      exact h
theorem Tx.frame {w w' : World} (h : Tx w) (o : Only (fun _ => False) w w') : Tx w' := ⟨h.1.frame o, h.2.frame o⟩
theorem only_grow {w : World} (k : Nat) (os : Array Obj) : Only (fun _ => False) w (Go.Sort.grow (w.drewN k) os) := by
  refine ⟨rfl, rfl, rfl, ?_, fun i hi _ => ?_⟩
  · show w.heap.size ≤ (w.heap ++ os).size
    rw [Array.size_append]
    omega
  · show (w.heap ++ os)[i]? = w.heap[i]?
    rw [Array.getElem?_append_left hi]
theorem fmt_any (n : Int) (h0 : -9223372036854775808 ≤ n) (h1 : n ≤ 9223372036854775807) (w : World) (h : Pw w) : Calls Tryz.prog 118 #[.int .i64 n, .int .i64 10] w fun e w' => e = .returned (.string ⟨(Lib.itoa n).toArray⟩) ∧ Only (fun _ => False) w w' :=
  (Any.strconv_FormatInt_10 Tryz.laysFmt n h0 h1 w h).mono fun e w' ⟨he, k, os, hw⟩ => ⟨he, by rw [hw]; exact only_grow k os⟩
/-- a value is sound as parse has it; and what is written of it -/
def PsV (v : Value) : Prop := ∀ (M : Nat) (w : World), Tb w → MlB w M 1024 → Mg M → Calls Tryz.prog 115 #[.pointer (some ⟨M, 0, none⟩), v, .int .i64 32] w fun e w' => e = .returned (.bool true) ∧ Only (fun b => b = M) w w'
def WvV (v : Value) (t : ByteArray) : Prop := ∀ (B b : Nat) (w : World), Tx w → WrU B b [] false w → B ≤ w.heap.size → Calls Tryz.prog 112 #[.pointer (some ⟨b, 0, none⟩), v] w fun e w' => e = .returned (.tuple #[]) ∧ Hid (WrU B b (strCells t) true w' ∧ Only (fun k => B ≤ k) w w')
theorem mlB_keep {w w' : World} {M : Nat} {k : Int} (h : MlB w M k) (o : Only (fun _ => False) w w') : MlB w' M k := (o.block M (Array.getElem?_eq_some_iff.1 h).1 (fun g => g)).trans h
set_option maxRecDepth 100000 in
theorem ps_int (n : Int) (h1 : -1152921504606846976 ≤ n) (h2 : n ≤ 1152921504606846975) : PsV (.iface 59 (.agg #[.int .i64 n])) := by
  intro M w _ h _
  have HM : Hid (Calls Tryz.prog 116 #[.pointer (some ⟨M, 0, none⟩)] w fun e w' => e = .returned (.bool true) ∧ Only (fun b => b = M) w w' ∧ MlB w' M (1024 - 1)) := pmore_any M 1024 w h (by omega) (by omega)
  have hInt := va_hit 59 27 _ Tryz.underlying59 (by intro m h; cases h)
  clear h
  go_enter Tryz.func115, Tryz.ntmps115
  go_wp2_with fail
  refine (show Calls Tryz.prog 116 _ _ _ from HM.out).mono ?_
  rintro e w1 ⟨rfl, o1, _⟩
  have O1 : Hid (Only (fun b => b = M) w w1) := o1
  clear HM o1
  go_wp2
  all_goals
    go_ret
    exact ⟨by simp [*], O1.out.alloc _⟩
set_option maxRecDepth 100000 in
theorem ps_bool (b : Bool) : PsV (.iface 78 (.agg #[.bool b])) := by
  intro M w _ h _
  have HM : Hid (Calls Tryz.prog 116 #[.pointer (some ⟨M, 0, none⟩)] w fun e w' => e = .returned (.bool true) ∧ Only (fun b => b = M) w w' ∧ MlB w' M (1024 - 1)) := pmore_any M 1024 w h (by omega) (by omega)
  have hInt := va_miss 78 59 27 _ Tryz.underlying59 (by intro m h; cases h) (by decide) _ zI
  have hStr := va_miss 78 76 27 _ Tryz.underlying76 (by intro m h; cases h) (by decide) _ zS
  have hBl := va_hit 78 27 _ Tryz.underlying78 (by intro m h; cases h)
  clear h
  go_enter Tryz.func115, Tryz.ntmps115
  go_wp2_with fail
  refine (show Calls Tryz.prog 116 _ _ _ from HM.out).mono ?_
  rintro e w1 ⟨rfl, o1, _⟩
  have O1 : Hid (Only (fun b => b = M) w w1) := o1
  clear HM o1
  go_wp2
  all_goals
    go_ret
    refine ⟨by simp [*], ?_⟩
    repeat' first | exact O1.out | apply Only.alloc
set_option maxRecDepth 100000 in
theorem ps_str (s : ByteArray) (h1 : s.size ≤ 4096) (h2 : vlB s = true) : PsV (.iface 76 (.agg #[.string s])) := by
  intro M w hT h hg
  have HM : Hid (Calls Tryz.prog 116 #[.pointer (some ⟨M, 0, none⟩)] w fun e w' => e = .returned (.bool true) ∧ Only (fun b => b = M) w w' ∧ MlB w' M (1024 - 1)) := pmore_any M 1024 w h (by omega) (by omega)
  have HV : Hid (∀ w1, Only (fun b => b = M) w w1 → Calls Tryz.prog 92 #[.string s] w1 fun e w' => e = .returned (.bool true) ∧ Only (fun _ => False) w1 w') := fun w1 o => by
    have := valid_any s (by omega) w1 (hT.keep o hg.1 hg.2.1 hg.2.2)
    rwa [h2] at this
  have hInt := va_miss 76 59 27 _ Tryz.underlying59 (by intro m h; cases h) (by decide) _ zI
  have hStr := va_hit 76 27 _ Tryz.underlying76 (by intro m h; cases h)
  have i1 : (s.size : Int) ≤ 4096 := by omega
  clear h hT hg h1 h2
  go_enter Tryz.func115, Tryz.ntmps115
  go_wp2_with fail
  refine (show Calls Tryz.prog 116 _ _ _ from HM.out).mono ?_
  rintro e w1 ⟨rfl, o1, _⟩
  have O1 : Hid (Only (fun b => b = M) w w1) := o1
  clear HM o1
  go_wp2_with fail
  refine (show Calls Tryz.prog 92 _ _ _ from HV.out _ (by repeat' first | exact O1.out | apply Only.alloc)).mono ?_
  rintro e w2 ⟨rfl, o2⟩
  have O2 : Hid (Only (fun b => b = M) w w2) := Only.trans (by repeat' first | exact O1.out | apply Only.alloc) o2 (fun _ _ g => g.elim)
  clear HV o2
  go_wp2
  go_ret
  exact ⟨rfl, O2.out⟩
theorem wword0 {B b : Nat} {s : ByteArray} (hs : s.size ≤ 1000000) (w1 : World) (h : WrU B b [] false w1) (hB : B ≤ w1.heap.size) : Calls Tryz.prog 113 #[.pointer (some ⟨b, 0, none⟩), .string s] w1 fun e w' => e = .returned (.tuple #[]) ∧ Hid (WrU B b (strCells s) true w' ∧ Only (fun k => B ≤ k) w1 w') := (wword_first B b [] s w1 h (by simp) hs hB).mono fun e w' g => ⟨g.1, by have := g.2.out; rw [List.nil_append] at this; exact this⟩
theorem wfull0 {B b : Nat} {w : World} (h : WrU B b [] false w) : Calls Tryz.prog 108 #[.pointer (some ⟨b, 0, none⟩)] w fun e w' => e = .returned (.bool false) ∧ w' = w := by
  have := wfull_any B b _ false w h
  rwa [show decide (65536 < (([] : List Value).length : Int)) = false by simp] at this
set_option maxRecDepth 100000 in
theorem wv_int (n : Int) (h0 : -9223372036854775808 ≤ n) (h1 : n ≤ 9223372036854775807) : WvV (.iface 59 (.agg #[.int .i64 n])) ⟨(Lib.itoa n).toArray⟩ := by
  intro B b w hT h hBw
  have hz : (⟨(Lib.itoa n).toArray⟩ : ByteArray).size ≤ 1000000 := by
    have := Lib.itoa_length_le n h0 h1
    show (Lib.itoa n).toArray.size ≤ _
    simp
    omega
  obtain ⟨T, hTt⟩ : ∃ T : ByteArray, T = ⟨(Lib.itoa n).toArray⟩ := ⟨_, rfl⟩
  have HF : Hid _ := wfull0 h
  have HI : Hid (∀ w1, Only (fun _ => False) w w1 → Calls Tryz.prog 118 #[.int .i64 n, .int .i64 10] w1 fun e w' => e = .returned (.string T) ∧ Only (fun _ => False) w1 w') := fun w1 o => by
    rw [hTt]
    exact fmt_any n h0 h1 w1 (hT.2.frame o)
  have HW : Hid (∀ w1, Only (fun _ => False) w w1 → Calls Tryz.prog 113 #[.pointer (some ⟨b, 0, none⟩), .string T] w1 fun e w' => e = .returned (.tuple #[]) ∧ Hid (WrU B b (strCells T) true w' ∧ Only (fun k => B ≤ k) w1 w')) := fun w1 o => by
    rw [hTt]
    exact wword0 hz w1 (h.only o) (Nat.le_trans hBw o.size)
  have hInt := va_hit 59 27 _ Tryz.underlying59 (by intro m h; cases h)
  have O0 : Hid (Only (fun _ => False) w w) := Only.refl _ _
  rw [← hTt]
  clear h hBw hT hz hTt h0 h1
  go_enter Tryz.func112, Tryz.ntmps112
  go_wp2_with fail
  refine (show Calls Tryz.prog 108 _ _ _ from HF.out).mono ?_
  rintro e w1 ⟨rfl, hw⟩
  obtain rfl : w = w1 := hw.symm
  clear HF hw
  go_wp2_with fail
  refine (show Calls Tryz.prog 118 _ _ _ from HI.out _ (by repeat' first | exact O0.out | apply Only.alloc)).mono ?_
  rintro e w2 ⟨rfl, o2⟩
  have O2 : Hid (Only (fun _ => False) w w2) := Only.trans (by repeat' first | exact O0.out | apply Only.alloc) o2 (fun _ _ g => g)
  clear HI o2
  go_wp2_with fail
  refine (show Calls Tryz.prog 113 _ _ _ from HW.out _ O2.out).mono ?_
  rintro e w3 ⟨rfl, g3⟩
  clear HW
  go_wp2
  go_end0
  exact ⟨rfl, g3.out.1, (O2.out.mono (fun _ _ h => h.elim)).trans g3.out.2 (fun _ _ g => g)⟩
set_option maxRecDepth 100000 in
theorem wv_str (s : ByteArray) (h1 : s.size ≤ 4096) (h2 : vlB s = true) (hq : (quoR s).1.size ≤ 1000000) : WvV (.iface 76 (.agg #[.string s])) (quoR s).1 := by
  intro B b w hT h hBw
  obtain ⟨T, hTt⟩ : ∃ T, T = (quoR s).1 := ⟨_, rfl⟩
  obtain ⟨E, hE⟩ : ∃ T, T = (quoR s).2 := ⟨_, rfl⟩
  have HF : Hid _ := wfull0 h
  have HI : Hid (∀ w1, Calls Tryz.prog 119 #[.string s] w1 fun e w' => e = .returned (.tuple #[.string T, .int .i64 E]) ∧ Only (fun _ => False) w1 w') := fun w1 => by
    rw [hTt, hE]
    exact (quoted_any s (by omega) w1).mono fun e w' g => ⟨g.1, ⟨g.2.out.os, g.2.out.tape, g.2.out.output, g.2.out.size, fun k hk _ => g.2.out.block k hk⟩⟩
  have HW : Hid (∀ w1, Only (fun _ => False) w w1 → Calls Tryz.prog 113 #[.pointer (some ⟨b, 0, none⟩), .string T] w1 fun e w' => e = .returned (.tuple #[]) ∧ Hid (WrU B b (strCells T) true w' ∧ Only (fun k => B ≤ k) w1 w')) := fun w1 o => by
    rw [hTt]
    exact wword0 hq w1 (h.only o) (Nat.le_trans hBw o.size)
  have hInt := va_miss 76 59 27 _ Tryz.underlying59 (by intro m h; cases h) (by decide) _ zI
  have hStr := va_hit 76 27 _ Tryz.underlying76 (by intro m h; cases h)
  have O0 : Hid (Only (fun _ => False) w w) := Only.refl _ _
  rw [← hTt]
  clear h hBw hT hq hTt h1 h2 hE
  go_enter Tryz.func112, Tryz.ntmps112
  go_wp2_with fail
  refine (show Calls Tryz.prog 108 _ _ _ from HF.out).mono ?_
  rintro e w1 ⟨rfl, hw⟩
  obtain rfl : w = w1 := hw.symm
  clear HF hw
  go_wp2_with fail
  refine (show Calls Tryz.prog 119 _ _ _ from HI.out _).mono ?_
  rintro e w2 ⟨rfl, o2⟩
  have O2 : Hid (Only (fun _ => False) w w2) := Only.trans (by repeat' first | exact O0.out | apply Only.alloc) o2 (fun _ _ g => g)
  clear HI o2
  go_wp2_with fail
  refine (show Calls Tryz.prog 113 _ _ _ from HW.out _ O2.out).mono ?_
  rintro e w3 ⟨rfl, g3⟩
  clear HW
  go_wp2
  go_end0
  exact ⟨rfl, g3.out.1, (O2.out.mono (fun _ _ h => h.elim)).trans g3.out.2 (fun _ _ g => g)⟩
def flT (b : Bool) : ByteArray := if b then ⟨#[116]⟩ else ⟨#[102]⟩
set_option maxRecDepth 100000 in
theorem wflag_any (y : Bool) (B b : Nat) (w : World) (h : WrU B b [] false w) (hBw : B ≤ w.heap.size) : Calls Tryz.prog 120 #[.pointer (some ⟨b, 0, none⟩), .bool y] w fun e w' => e = .returned (.tuple #[]) ∧ Hid (WrU B b (strCells (flT y)) true w' ∧ Only (fun k => B ≤ k) w w') := by
  have HW : Hid (Calls Tryz.prog 113 #[.pointer (some ⟨b, 0, none⟩), .string (flT y)] w fun e w' => e = .returned (.tuple #[]) ∧ Hid (WrU B b (strCells (flT y)) true w' ∧ Only (fun k => B ≤ k) w w')) := wword0 (by cases y <;> decide) w h hBw
  clear h hBw
  cases y
  all_goals
    unfold flT at HW ⊢
    go_enter Tryz.func120, Tryz.ntmps120
    go_wp2_with fail
    refine (show Calls Tryz.prog 113 _ _ _ from HW.out).mono ?_
    rintro e w3 ⟨rfl, g3⟩
    clear HW
    go_wp2
    first | go_end0 | ((try simp only [Exit.inBlock, Exit.then]); refine bodyPost_ret (results_none rfl _ _ _) rfl ?_)
    exact ⟨rfl, g3.out⟩
set_option maxRecDepth 100000 in
theorem wv_bool (y : Bool) : WvV (.iface 78 (.agg #[.bool y])) (flT y) := by
  intro B b w hT h hBw
  have HF : Hid _ := wfull0 h
  have HW : Hid (∀ w1, Only (fun _ => False) w w1 → Calls Tryz.prog 120 #[.pointer (some ⟨b, 0, none⟩), .bool y] w1 fun e w' => e = .returned (.tuple #[]) ∧ Hid (WrU B b (strCells (flT y)) true w' ∧ Only (fun k => B ≤ k) w1 w')) := fun w1 o => wflag_any y B b w1 (h.only o) (Nat.le_trans hBw o.size)
  have hInt := va_miss 78 59 27 _ Tryz.underlying59 (by intro m h; cases h) (by decide) _ zI
  have hStr := va_miss 78 76 27 _ Tryz.underlying76 (by intro m h; cases h) (by decide) _ zS
  have hBl := va_hit 78 27 _ Tryz.underlying78 (by intro m h; cases h)
  have O0 : Hid (Only (fun _ => False) w w) := Only.refl _ _
  obtain ⟨T, hTt⟩ : ∃ T, T = flT y := ⟨_, rfl⟩
  rw [← hTt] at HW ⊢
  clear h hBw hT hTt
  go_enter Tryz.func112, Tryz.ntmps112
  go_wp2_with fail
  refine (show Calls Tryz.prog 108 _ _ _ from HF.out).mono ?_
  rintro e w1 ⟨rfl, hw⟩
  obtain rfl : w = w1 := hw.symm
  clear HF hw
  go_wp2_with fail
  refine (show Calls Tryz.prog 120 _ _ _ from HW.out _ (by repeat' first | exact O0.out | apply Only.alloc)).mono ?_
  rintro e w3 ⟨rfl, g3⟩
  have G3 : Hid (WrU B b (strCells T) true w3 ∧ Only (fun k => B ≤ k) w w3) := ⟨g3.out.1, Only.trans (show Only (fun k => B ≤ k) w _ by repeat' first | exact (Only.refl _ _) | apply Only.alloc) g3.out.2 (fun _ _ g => g)⟩
  clear HW g3
  go_wp2
  go_end0
  exact ⟨rfl, G3.out⟩
end Go.Proofs.YtdfbnnephfoboaaGreatDoor
namespace Go.Proofs.YtdfbnnephfoboaaGreatDoor
open Go.RowKit Go.Lib
set_option linter.unusedSimpArgs false
set_option linter.unusedVariables false
set_option maxRecDepth 100000 in
theorem measured7 (w : World) : Calls Tryz.prog 35 #[i7] w fun e w' => e = .returned (.tuple #[.agg #[.int .i64 1, .int .i64 0], .int .i64 0]) ∧ Only (fun _ => False) w w' := by
  have HV : Hid (Calls Tryz.prog 53 #[.pointer (some ⟨w.heap.size + 1, 0, none⟩), i7, .int .i64 0] ((w.alloc (.cells #[.int .i64 0, .int .i64 0] 86)).alloc (.cells #[.int .i64 0, .int .i64 0] 86)) fun e w' => e = .returned (.bool true) ∧ Only (fun b => b = w.heap.size + 1) ((w.alloc (.cells #[.int .i64 0, .int .i64 0] 86)).alloc (.cells #[.int .i64 0, .int .i64 0] 86)) w' ∧ VmB w' (w.heap.size + 1) (0 + 1) 0) := vval_int 7 (by omega) (by omega) (w.heap.size + 1) 0 0 0 _ (va_at (w.alloc (.cells #[.int .i64 0, .int .i64 0] 86)) _ _ (Array.size_push ..).symm) (by omega) (by omega)
  have ca : ((w.alloc (.cells #[.int .i64 0, .int .i64 0] 86)).alloc (.cells #[.int .i64 0, .int .i64 0] 86)).heap[w.heap.size]? = some (.cells #[.int .i64 0, .int .i64 0] 86) := (((Only.refl (fun _ => False) (w.alloc (.cells #[.int .i64 0, .int .i64 0] 86))).alloc _).block w.heap.size (by rw [show (w.alloc (.cells #[.int .i64 0, .int .i64 0] 86)).heap.size = w.heap.size + 1 from Array.size_push ..]; omega) (fun h => h)).trans (va_at w _ _ rfl)
  have CA : Hid (((w.alloc (.cells #[.int .i64 0, .int .i64 0] 86)).alloc (.cells #[.int .i64 0, .int .i64 0] 86)).heap[w.heap.size]? = some (.cells #[.int .i64 0, .int .i64 0] 86)) := ca
  have CZ : Hid (((w.alloc (.cells #[.int .i64 0, .int .i64 0] 86)).alloc (.cells #[.int .i64 0, .int .i64 0] 86)).heap.size = w.heap.size + 2) := (Array.size_push ..).trans (congrArg (· + 1) (Array.size_push ..))
  clear ca
  go_enter Tryz.func35, Tryz.ntmps35
  go_wp2_with fail
  refine (show Calls Tryz.prog 53 _ _ _ from HV.out).mono ?_
  rintro e w1 ⟨rfl, o1, m1⟩
  have O1 : Hid (Only (fun _ => False) w w1) := (((Only.refl (fun _ => False) w).alloc _).alloc _).trans o1 (fun k hk e => by omega)
  have h0 := (o1.block w.heap.size (by rw [CZ.out]; omega) (by omega)).trans CA.out
  have c0 := wr_cell h0 0
  have c1 := wr_cell h0 1
  have f0 := wr_froz h0 0
  have f1 := wr_froz h0 1
  have d0 := wr_cell m1 0
  have d1 := wr_cell m1 1
  simp only [List.getElem?_toArray, List.getElem?_cons_succ, List.getElem?_cons_zero, Int.zero_add] at c0 c1 d0 d1
  have q := set2 c0 c1 (.int .i64 1) (.int .i64 0)
  have Q : Hid (((w1.setCell ⟨w.heap.size, 0, none⟩ (.int .i64 1)).setCell ⟨w.heap.size, 1, none⟩ (.int .i64 0)).cell? ⟨w.heap.size, 0, none⟩ = some (.int .i64 1) ∧ ((w1.setCell ⟨w.heap.size, 0, none⟩ (.int .i64 1)).setCell ⟨w.heap.size, 1, none⟩ (.int .i64 0)).cell? ⟨w.heap.size, 1, none⟩ = some (.int .i64 0)) := q
  clear h0 CA CZ HV o1 m1 q
  go_wp2
  refine bodyPost_ret (results_two rfl _ _ w.heap.size Q.out.1 Q.out.2 rfl) rfl ?_
  exact ⟨rfl, (O1.out.setCell _ _ (fun g => by simp only at g; omega)).setCell _ _ (fun g => by simp only at g; omega)⟩
set_option maxRecDepth 100000 in
theorem check7 (w : World) : Calls Tryz.prog 12 #[i7] w fun e w' => e = .returned (.int .i64 0) ∧ Only (fun _ => False) w w' := by
  have HV : Hid (Calls Tryz.prog 35 #[i7] w fun e w' => e = .returned (.tuple #[.agg #[.int .i64 1, .int .i64 0], .int .i64 0]) ∧ Only (fun _ => False) w w') := measured7 w
  go_enter Tryz.func12, Tryz.ntmps12
  go_wp2_with fail
  refine (show Calls Tryz.prog 35 _ _ _ from HV.out).mono ?_
  rintro e w1 ⟨rfl, o1⟩
  have O1 : Hid (Only (fun _ => False) w w1) := o1
  clear HV o1
  go_wp2
  go_ret
  exact ⟨rfl, O1.out.alloc _⟩
set_option maxRecDepth 100000 in
theorem word7 (w : World) : Calls Tryz.prog 58 #[p7] w fun e w' => e = .returned (.string ⟨#[55]⟩) ∧ Only (fun _ => False) w w' := by
  have HV : Hid (∀ w1 g, w1.cell? ⟨g, 0, none⟩ = some p7 → Calls Tryz.prog 82 #[.slice (some ⟨g, 0, none⟩) 1 1] w1 fun e w' => e = .returned (.tuple #[.string ⟨#[55]⟩, .int .i64 0]) ∧ Only (fun _ => False) w1 w') := fun w1 g => text7 g w1
  go_enter Tryz.func58, Tryz.ntmps58
  go_wp2_with fail
  have hc : (w.alloc (.cells #[p7] 94)).cell? ⟨w.heap.size, 0, none⟩ = some p7 := (wr_cell (va_at w (.cells #[p7] 94) _ rfl) 0).trans rfl
  refine (show Calls Tryz.prog 82 _ _ _ from HV.out _ _ hc).mono ?_
  rintro e w1 ⟨rfl, o1⟩
  have O1 : Hid (Only (fun _ => False) w w1) := ((Only.refl (fun _ => False) w).alloc _).trans o1 (fun _ _ g => g)
  clear HV o1 hc
  go_wp2
  go_ret
  exact ⟨rfl, O1.out⟩
set_option maxRecDepth 100000 in
theorem join1 (w : World) (g : Nat) (c : Int) (hc : 1 ≤ c) (s : ByteArray) (hg : w.cell? ⟨g, 0, none⟩ = some (.string s)) : Calls Tryz.prog 36 #[.slice (some ⟨g, 0, none⟩) 1 c.toNat, .string ⟨#[32]⟩] w fun e w' => e = .returned (.string s) ∧ w' = w := by
  go_enter Tryz.func36, Tryz.ntmps36
  go_wp2
  go_ret
  exact ⟨rfl, rfl⟩
end Go.Proofs.YtdfbnnephfoboaaGreatDoor
