/- Copies of values: copied, copiedItem, Copy. Dictionaries without vocabularies: what is looked up in them. The numbers of a value's boxes: addBoxes, addItemBoxes. slices.Values of numbers: its closure gives them in their order, to every loop body that keeps the block in which they lie. -/
import Derived.Test.YtdkbioahhkmpoaaGreatDoorGaf
import Derived.Test.YtdkbioahhkmpoaaGreatDoorGag
import Derived.Test.YtdkbioahhkmpoaaGreatDoorGab
import Derived.Test.YtdkbioahhkmpoaaGreatDoorGaa
import Derived.Test.YtdkbioahhkmpoaaGreatDoorRows
import Derived.RangeFuncNested
import Derived.RangeFuncBound
import Derived.RangeFuncCalls
import Derived.RangeFuncLeaves
import Derived.RangeFuncBox
import Derived.Shelf.Abstract
import Derived.Shelf.RegionOpen
import Derived.OwnWalkIn
import Derived.TacticsInMore
import Derived.LoopNIn
import Derived.LoopIn
namespace Go.Proofs.YtdkbioahhkmpoaaGreatDoor
open Go.RowKit Go.Lib
set_option linter.unusedSimpArgs false
set_option linter.unusedVariables false
theorem PsAt.only {w w' : World} {S bs : Nat → Prop} {d : Nat} {i : Bool} {l : List Vt} {ao : Option Addr} (h : PsAt w S d i l ao) (o : Only bs w w') (hb : ∀ b, S b → ¬ bs b) : PsAt w' S d i l ao := fun j x hx => by
  obtain ⟨g, q, u, h1, h2, h3, h4⟩ := h j x hx
  exact ⟨g, q, u, h1, h2, o.cell h3 (hb g h2), h4.only o hb⟩
theorem ps_nil {w : World} {S : Nat → Prop} {d : Nat} {i : Bool} {l : List Vt} {ao : Option Addr} (h : PsAt w S d i l ao) (e : ao = none) : l = [] := by
  cases l with
  | nil => rfl
  | cons x r =>
    obtain ⟨g, q, u, h1, _⟩ := h 0 x rfl
    rw [e] at h1
    cases h1
set_option maxRecDepth 100000 in
theorem cp_other (T : TypeId) (x : Value) (hL : T ≠ 132) (hQ : T ≠ 80) (w : World) : Calls Tryz.prog 49 #[.iface T x] w fun e w' => e = .returned (.iface T x) ∧ Only (fun _ => False) w w' := by
  have mList := va_miss T 132 76 _ Tryz.underlying132 (by intro m h; cases h) hL _ zL
  have mQuot := va_miss T 80 76 _ Tryz.underlying80 (by intro m h; cases h) hQ _ zQ
  have O : Hid (Only (fun _ => False) w w) := Only.refl _ _
  clear hL hQ
  go_enter Tryz.func49, Tryz.ntmps49
  go_wp2
  go_ret
  exact ⟨rfl, by repeat' first | exact O.out | apply Only.alloc⟩
set_option maxRecDepth 100000 in
theorem cp_nil (w : World) : Calls Tryz.prog 49 #[.nilIface] w fun e w' => e = .returned .nilIface ∧ Only (fun _ => False) w w' := by
  have mList := uas_nil 132 76 _ Tryz.underlying132 (by intro m h; cases h) _ zL
  have mQuot := uas_nil 80 76 _ Tryz.underlying80 (by intro m h; cases h) _ zQ
  have O : Hid (Only (fun _ => False) w w) := Only.refl _ _
  go_enter Tryz.func49, Tryz.ntmps49
  go_wp2
  go_ret
  exact ⟨rfl, by repeat' first | exact O.out | apply Only.alloc⟩
set_option maxRecDepth 100000 in
theorem cp_v (d : Nat) (H : CeC d false 49 67) (l : List Vt) (ao : Option Addr) (cap : Nat) (w : World) (S : Nat → Prop) (hl : PsAt w S d false l ao) (hS : ∀ b, S b → b < w.heap.size) (hsm : ∀ x ∈ l, ∃ e, SmT e x) (hlen : l.length ≤ 2513169434900) :
    Calls Tryz.prog 49 #[.iface 132 (.agg #[.slice ao l.length cap])] w fun e w' => ∃ ao' cap', e = .returned (.iface 132 (.agg #[.slice ao' l.length cap'])) ∧ Hid (l.length ≤ cap' ∧ (∃ S', PsAt w' S' d false l ao' ∧ ∀ b, S' b → w.heap.size ≤ b ∧ Liv w' b) ∧ Only (fun _ => False) w w') := by
  have HC : Hid (∀ w1, Only (fun _ => False) w w1 → Calls Tryz.prog 67 #[.slice ao l.length cap, .func (.func 49) #[] #[]] w1 fun e w' => ∃ ao' cap', e = .returned (.slice ao' l.length cap') ∧ Hid (l.length ≤ cap' ∧ (∃ S', PsAt w' S' d false l ao' ∧ ∀ b, S' b → w.heap.size ≤ b ∧ Liv w' b) ∧ Only (fun _ => False) w w')) := fun w1 o1 => by
    refine (H l ao cap w1 S (hl.only o1 (fun _ _ g => g)) (fun b hb => Nat.lt_of_lt_of_le (hS b hb) o1.size) hsm hlen (ps_nil hl)).mono fun e w' g => ?_
    obtain ⟨ao', cap', he, g⟩ := g
    obtain ⟨g1, ⟨S', g2, g3⟩, g4⟩ := g.out
    exact ⟨ao', cap', he, g1, ⟨S', g2, fun b hb => ⟨Nat.le_trans o1.size (g3 b hb).1, (g3 b hb).2⟩⟩, o1.trans g4 (fun _ _ g => g)⟩
  have hList := va_hit 132 76 _ Tryz.underlying132 (by intro m h; cases h)
  have O : Hid (Only (fun _ => False) w w) := Only.refl _ _
  obtain ⟨N, hN⟩ : ∃ N, N = l.length := ⟨_, rfl⟩
  rw [← hN] at HC ⊢
  clear hl hS hsm hlen hN H
  go_enter Tryz.func49, Tryz.ntmps49
  go_wp2_with fail
  refine (show Calls Tryz.prog 67 _ _ _ from HC.out _ (by repeat' first | exact O.out | apply Only.alloc)).mono ?_
  rintro e w1 ⟨ao', cap', rfl, G⟩
  clear HC O
  go_wp2
  go_ret
  exact ⟨ao', cap', rfl, G⟩
set_option maxRecDepth 100000 in
theorem cp_i (d : Nat) (H : CeC d true 69 68) (l : List Vt) (ao : Option Addr) (cap : Nat) (w : World) (S : Nat → Prop) (hl : PsAt w S d true l ao) (hS : ∀ b, S b → b < w.heap.size) (hsm : ∀ x ∈ l, ∃ e, SmT e x) (hlen : l.length ≤ 2513169434900) :
    Calls Tryz.prog 49 #[.iface 80 (.agg #[.slice ao l.length cap])] w fun e w' => ∃ ao' cap', e = .returned (.iface 80 (.agg #[.slice ao' l.length cap'])) ∧ Hid (l.length ≤ cap' ∧ (∃ S', PsAt w' S' d true l ao' ∧ ∀ b, S' b → w.heap.size ≤ b ∧ Liv w' b) ∧ Only (fun _ => False) w w') := by
  have HC : Hid (∀ w1, Only (fun _ => False) w w1 → Calls Tryz.prog 68 #[.slice ao l.length cap, .func (.func 69) #[] #[]] w1 fun e w' => ∃ ao' cap', e = .returned (.slice ao' l.length cap') ∧ Hid (l.length ≤ cap' ∧ (∃ S', PsAt w' S' d true l ao' ∧ ∀ b, S' b → w.heap.size ≤ b ∧ Liv w' b) ∧ Only (fun _ => False) w w')) := fun w1 o1 => by
    refine (H l ao cap w1 S (hl.only o1 (fun _ _ g => g)) (fun b hb => Nat.lt_of_lt_of_le (hS b hb) o1.size) hsm hlen (ps_nil hl)).mono fun e w' g => ?_
    obtain ⟨ao', cap', he, g⟩ := g
    obtain ⟨g1, ⟨S', g2, g3⟩, g4⟩ := g.out
    exact ⟨ao', cap', he, g1, ⟨S', g2, fun b hb => ⟨Nat.le_trans o1.size (g3 b hb).1, (g3 b hb).2⟩⟩, o1.trans g4 (fun _ _ g => g)⟩
  have mList := va_miss 80 132 76 _ Tryz.underlying132 (by intro m h; cases h) (by decide) _ zL
  have hQuot := va_hit 80 76 _ Tryz.underlying80 (by intro m h; cases h)
  have O : Hid (Only (fun _ => False) w w) := Only.refl _ _
  obtain ⟨N, hN⟩ : ∃ N, N = l.length := ⟨_, rfl⟩
  rw [← hN] at HC ⊢
  clear hl hS hsm hlen hN H
  go_enter Tryz.func49, Tryz.ntmps49
  go_wp2_with fail
  refine (show Calls Tryz.prog 68 _ _ _ from HC.out _ (by repeat' first | exact O.out | apply Only.alloc)).mono ?_
  rintro e w1 ⟨ao', cap', rfl, G⟩
  clear HC O
  go_wp2
  go_ret
  exact ⟨ao', cap', rfl, G⟩
theorem cp_of (d : Nat) (H1 : CpC d false 49) (H2 : CpC d true 69) : CpC (d + 1) false 49 := by
  intro t v w S h hsm hS
  have leaf : ∀ w', TiAt w' (fun _ => False) (d + 1) false t v → Only (fun _ => False) w w' → ∃ v', (Ending.returned v) = .returned v' ∧ Hid (NiAt w' w.heap.size (d + 1) false t v' ∧ Only (fun _ => False) w w') := fun w' ht o => ⟨v, rfl, ⟨_, ht, fun b hb => hb.elim⟩, o⟩
  rcases h with ⟨h1, h2, rfl⟩ | ⟨h1, h2, rfl⟩ | ⟨h1, h2, rfl⟩ | ⟨h1, h2, rfl⟩ | ⟨h1, h2, rfl⟩ | ⟨h1, ao, cap, rfl, hc, hl⟩
  · exact (cp_other _ _ (by decide) (by decide) w).mono fun e w' g => by obtain ⟨rfl, o⟩ := g; exact leaf w' (.inl ⟨h1, h2, rfl⟩) o
  · exact (cp_other _ _ (by decide) (by decide) w).mono fun e w' g => by obtain ⟨rfl, o⟩ := g; exact leaf w' (.inr (.inl ⟨h1, h2, rfl⟩)) o
  · exact (cp_other _ _ (by decide) (by decide) w).mono fun e w' g => by obtain ⟨rfl, o⟩ := g; exact leaf w' (.inr (.inr (.inl ⟨h1, h2, rfl⟩))) o
  · exact (cp_other _ _ (by decide) (by decide) w).mono fun e w' g => by obtain ⟨rfl, o⟩ := g; exact leaf w' (.inr (.inr (.inr (.inl ⟨h1, h2, rfl⟩)))) o
  · exact (cp_nil w).mono fun e w' g => by obtain ⟨rfl, o⟩ := g; exact leaf w' (.inr (.inr (.inr (.inr (.inl ⟨h1, h2, rfl⟩))))) o
  · obtain ⟨e, hs⟩ := hsm
    have hlen := hs.len
    have hparts := hs.parts
    by_cases h4 : t.k = 4
    · rw [if_pos h4]
      rw [show decide (t.k = 5) = false by simp [h4]] at hl
      refine (cp_v d (ce_v d H1) t.l ao cap w S hl hS hparts hlen).mono fun e w' g => ?_
      obtain ⟨ao', cap', rfl, g⟩ := g
      obtain ⟨g1, ⟨S', g2, g3⟩, g4⟩ := g.out
      refine ⟨_, rfl, ⟨S', .inr (.inr (.inr (.inr (.inr ⟨h1, ao', cap', by rw [if_pos h4], g1, ?_⟩)))), g3⟩, g4⟩
      rw [show decide (t.k = 5) = false by simp [h4]]
      exact g2
    · have h5 : t.k = 5 := by rcases h1 with g | g; exact absurd g h4; exact g
      rw [if_neg h4]
      rw [show decide (t.k = 5) = true by simp [h5]] at hl
      refine (cp_i d (ce_i d H2) t.l ao cap w S hl hS hparts hlen).mono fun e w' g => ?_
      obtain ⟨ao', cap', rfl, g⟩ := g
      obtain ⟨g1, ⟨S', g2, g3⟩, g4⟩ := g.out
      refine ⟨_, rfl, ⟨S', .inr (.inr (.inr (.inr (.inr ⟨h1, ao', cap', by rw [if_neg h4], g1, ?_⟩)))), g3⟩, g4⟩
      rw [show decide (t.k = 5) = true by simp [h5]]
      exact g2
set_option maxRecDepth 100000 in
theorem ci_call (s : ByteArray) (w : World) : Calls Tryz.prog 69 #[.iface 111 (.agg #[.string s])] w fun e w' => e = .returned (.iface 111 (.agg #[.string s])) ∧ Only (fun _ => False) w w' := by
  have mP := va_miss 111 170 137 _ Tryz.underlying170 (by intro m h; cases h) (by decide) _ vzero_Push
  have O : Hid (Only (fun _ => False) w w) := Only.refl _ _
  go_enter Tryz.func69, Tryz.ntmps69
  go_wp2
  go_ret
  exact ⟨rfl, by repeat' first | exact O.out | apply Only.alloc⟩
set_option maxRecDepth 100000 in
theorem ci_nil (w : World) : Calls Tryz.prog 69 #[.nilIface] w fun e w' => e = .returned .nilIface ∧ Only (fun _ => False) w w' := by
  have mP := uas_nil 170 137 _ Tryz.underlying170 (by intro m h; cases h) _ vzero_Push
  have O : Hid (Only (fun _ => False) w w) := Only.refl _ _
  go_enter Tryz.func69, Tryz.ntmps69
  go_wp2
  go_ret
  exact ⟨rfl, by repeat' first | exact O.out | apply Only.alloc⟩
set_option maxRecDepth 100000 in
theorem ci_push (u : Value) (Q : Value → World → Prop) (w : World) (hu : u = .nilIface ∨ ∃ T y, u = .iface T y) (HC0 : ∀ w1, Only (fun _ => False) w w1 → Calls Tryz.prog 49 #[u] w1 fun e w' => ∃ v', e = .returned v' ∧ (v' = .nilIface ∨ ∃ T y, v' = .iface T y) ∧ Hid (Q v' w')) : Calls Tryz.prog 69 #[.iface 170 (.agg #[u])] w fun e w' => ∃ v', e = .returned (.iface 170 (.agg #[v'])) ∧ Hid (Q v' w') := by
  have mP := va_hit 170 137 _ Tryz.underlying170 (by intro m h; cases h)
  have HC : Hid _ := HC0
  have O : Hid (Only (fun _ => False) w w) := Only.refl _ _
  clear HC0
  rcases hu with rfl | ⟨T, y, rfl⟩
  all_goals
    go_enter Tryz.func69, Tryz.ntmps69
    go_wp2_with fail
    refine (show Calls Tryz.prog 49 _ _ _ from HC.out _ (by repeat' first | exact O.out | apply Only.alloc)).mono ?_
    rintro e w1 ⟨v', rfl, hv, G⟩
    clear HC O
    rcases hv with rfl | ⟨T', y', rfl⟩
    all_goals
      go_wp2
      go_ret
      exact ⟨_, rfl, G⟩
theorem ci_of (d : Nat) (H : CpC d false 49) : CpC (d + 1) true 69 := by
  intro t v w S h hsm hS
  rcases h with ⟨h1, h2, rfl⟩ | ⟨h1, h2, rfl⟩ | ⟨h1, h2, u, rfl, hu⟩
  · exact (ci_call _ w).mono fun e w' g => by obtain ⟨rfl, o⟩ := g; exact ⟨_, rfl, ⟨fun _ => False, .inl ⟨h1, h2, rfl⟩, fun b hb => hb.elim⟩, o⟩
  · exact (ci_nil w).mono fun e w' g => by obtain ⟨rfl, o⟩ := g; exact ⟨_, rfl, ⟨fun _ => False, .inr (.inl ⟨h1, h2, rfl⟩), fun b hb => hb.elim⟩, o⟩
  · refine (ci_push u (fun v' w' => NiAt w' w.heap.size d false t v' ∧ Only (fun _ => False) w w') w hu.shape2 (fun w1 o1 => ?_)).mono fun e w' g => ?_
    · refine (H t u w1 S (hu.only o1 (fun _ _ g => g)) hsm (fun b hb => Nat.lt_of_lt_of_le (hS b hb) o1.size)).mono fun e w' g => ?_
      obtain ⟨v', he, g⟩ := g
      exact ⟨v', he, (by obtain ⟨_, t, _⟩ := g.out.1; exact t.shape2), g.out.1.lower o1.size, o1.trans g.out.2 (fun _ _ g => g)⟩
    · obtain ⟨v', rfl, g⟩ := g
      obtain ⟨⟨S', g1, g2⟩, g3⟩ := g.out
      exact ⟨_, rfl, ⟨S', .inr (.inr ⟨h1, h2, v', rfl, g1⟩), g2⟩, g3⟩
theorem cp_all : ∀ (D d : Nat), d < D → CpC d false 49 ∧ CpC d true 69
  | 0, d, h => by omega
  | D + 1, d, h => by
    cases d with
    | zero => exact ⟨fun t v w0 S h => h.elim, fun t v w0 S h => h.elim⟩
    | succ d =>
      have ih := cp_all D d (by omega)
      exact ⟨cp_of d ih.1 ih.2, ci_of d ih.1⟩
/-- what Copy answers -/
def CoP (Z : Bool) (d : Nat) (t : Vt) (w : World) (e : Ending) (w' : World) : Prop := ∃ v', e = .returned (.tuple #[v', .int .i64 (if Z then 0 else 1)]) ∧ (Z = true → NiAt w' w.heap.size d false t v') ∧ (Z = false → v' = .nilIface) ∧ Only (fun _ => False) w w'
set_option maxRecDepth 100000 in
theorem vcopy_any {d : Nat} {t : Vt} {v : Value} {w : World} {S : Nat → Prop} (h : TiAt w S d false t v) (hS : ∀ b, S b → b < w.heap.size) (hsm : ∃ e, SmT e t) (hT : Tb w) : Calls Tryz.prog 31 #[v] w fun e w' => CoP (sdB d t) d t w e w' := by
  have HC : Hid _ := vcheck_any h hS hsm hT
  have HK : Hid (∀ w1, Only (fun _ => False) w w1 → Calls Tryz.prog 49 #[v] w1 fun e w' => ∃ v', e = .returned v' ∧ Hid (NiAt w' w.heap.size d false t v' ∧ Only (fun _ => False) w w')) := fun w1 o1 => by
    refine ((cp_all (d + 1) d (by omega)).1 t v w1 S (h.only o1 (fun _ _ g => g)) hsm (fun b hb => Nat.lt_of_lt_of_le (hS b hb) o1.size)).mono fun e w' g => ?_
    obtain ⟨v', he, g⟩ := g
    exact ⟨v', he, g.out.1.lower o1.size, o1.trans g.out.2 (fun _ _ g => g)⟩
  cases hZ : sdB d t with
  | false =>
    rw [hZ] at HC
    have HP : Hid (∀ w', Only (fun _ => False) w w' → CoP false d t w (.returned (.tuple #[.nilIface, .int .i64 1])) w') := fun w' o => ⟨_, rfl, fun g => (by cases g), fun _ => rfl, o⟩
    clear h hS hsm hT hZ HK
    go_enter Tryz.func31, Tryz.ntmps31
    go_wp2_with fail
    refine (show Calls Tryz.prog 48 _ _ _ from HC.out).mono ?_
    rintro e w1 ⟨rfl, o1⟩
    have O1 : Hid (Only (fun _ => False) w w1) := o1
    clear HC o1
    go_wp2
    go_ret2
    exact HP.out _ O1.out
  | true =>
    rw [hZ] at HC
    have HP : Hid (∀ v' w', NiAt w' w.heap.size d false t v' → Only (fun _ => False) w w' → CoP true d t w (.returned (.tuple #[v', .int .i64 0])) w') := fun v' w' hn o => ⟨_, rfl, fun _ => hn, fun g => (by cases g), o⟩
    clear h hS hsm hT hZ
    go_enter Tryz.func31, Tryz.ntmps31
    go_wp2_with fail
    refine (show Calls Tryz.prog 48 _ _ _ from HC.out).mono ?_
    rintro e w1 ⟨rfl, o1⟩
    have O1 : Hid (Only (fun _ => False) w w1) := o1
    clear HC o1
    go_wp2_with fail
    refine (show Calls Tryz.prog 49 _ _ _ from HK.out _ O1.out).mono ?_
    rintro e w2 ⟨v', rfl, G2⟩
    clear HK O1
    go_wp2
    go_ret2
    exact HP.out _ _ G2.out.1 G2.out.2
end Go.Proofs.YtdkbioahhkmpoaaGreatDoor
namespace Go.Proofs.YtdkbioahhkmpoaaGreatDoor
open Go.RowKit Go.Lib
set_option linter.unusedSimpArgs false
set_option linter.unusedVariables false
set_option maxRecDepth 100000 in
theorem dsearch_none (x : ByteArray) (w : World) : Calls Tryz.prog 38 #[.slice none 0 0, .string x, .func (.func 39) #[] #[]] w fun e w' => e = .returned (.tuple #[.int .i64 0, .bool false]) ∧ w' = w := by
  go_enter Tryz.func38, Tryz.ntmps38
  go_wp2
  go_loopw [9, 10] (fun a b wr => a = .int .i64 0 ∧ b = .int .i64 0 ∧ wr = w) (fun _ _ _ => 0)
  case atStart => exact ⟨rfl, rfl, rfl⟩
  case round =>
    obtain ⟨rfl, rfl, rfl⟩ := hrel
    go_wp2
    go_ret2
    exact ⟨rfl, rfl⟩
set_option maxRecDepth 100000 in
theorem dplace_none (x : ByteArray) (a : Option Addr) (n c : Nat) (w : World) : Calls Tryz.prog 26 #[.agg #[.slice none 0 0, .slice a n c], .string x] w fun e w' => e = .returned (.tuple #[.int .i64 0, .bool false]) ∧ Only (fun _ => False) w w' := by
  have H : Hid (∀ w1, Calls Tryz.prog 38 #[.slice none 0 0, .string x, .func (.func 39) #[] #[]] w1 fun e w' => e = .returned (.tuple #[.int .i64 0, .bool false]) ∧ w' = w1) := fun w1 => dsearch_none x w1
  have O : Hid (Only (fun _ => False) w w) := Only.refl _ _
  go_enter Tryz.func26, Tryz.ntmps26
  go_wp2_with fail
  refine (show Calls Tryz.prog 38 _ _ _ from H.out _).mono ?_
  rintro e w1 ⟨rfl, rfl⟩
  go_wp2
  go_ret2
  exact ⟨rfl, by repeat' first | exact O.out | apply Only.alloc⟩
set_option maxRecDepth 100000 in
theorem dall_none (a1 : Option Addr) (n1 c1 : Nat) (a : Option Addr) (n c : Nat) (w : World) : Calls Tryz.prog 29 #[.agg #[.slice a1 n1 c1, .slice a n c], .slice none 0 0] w fun e w' => e = .returned (.bool true) ∧ Only (fun _ => False) w w' := by
  have O : Hid (Only (fun _ => False) w w) := Only.refl _ _
  go_enter Tryz.func29, Tryz.ntmps29
  go_wp2
  go_loopw [11] (fun a wr => a = .int .i64 0 ∧ Hid (Only (fun _ => False) w wr)) (fun _ _ => 0)
  case atStart => exact ⟨rfl, by repeat' first | exact O.out | apply Only.alloc⟩
  case round =>
    obtain ⟨rfl, h⟩ := hrel
    go_wp2
    go_ret
    exact ⟨rfl, h.out⟩
set_option maxRecDepth 100000 in
theorem duses_none (a : Option Addr) (n c : Nat) (w : World) : Calls Tryz.prog 35 #[.agg #[.slice none 0 0, .slice a n c]] w fun e w' => ∃ ao cp, e = .returned (.slice ao 0 cp) ∧ Hid (Only (fun _ => False) w w') := by
  have O : Hid (Only (fun _ => False) w w) := Only.refl _ _
  have hmk : ∀ w1 : World, (Instr.makeSlice 87 (.int .i64 0) (.int .i64 0)).run Tryz.prog w1 = .ok (.slice (some ⟨w1.heap.size, 0, none⟩) 0 0) (w1.alloc (.cells #[] 104)) := fun w1 => by kernel_rfl
  go_enter Tryz.func35, Tryz.ntmps35
  go_wp2
  go_loopw [17] (fun a wr => a = .int .i64 0 ∧ Hid (Only (fun _ => False) w wr)) (fun _ _ => 0)
  case atStart => exact ⟨rfl, by repeat' first | exact O.out | apply Only.alloc⟩
  case round =>
    obtain ⟨rfl, h⟩ := hrel
    go_wp2
    go_ret
    exact ⟨_, _, rfl, h⟩
set_option maxRecDepth 100000 in
theorem dcircle_none (ao : Option Addr) (cp : Nat) (w : World) : Calls Tryz.prog 34 #[.slice ao 0 cp] w fun e w' => e = .returned (.bool false) ∧ Only (fun _ => False) w w' := by
  go_enter Tryz.func34, Tryz.ntmps34
  go_wp2
  go_loopw [6] (fun a wr => a = .int .i64 0 ∧ wr = w) (fun _ _ => 0)
  case atStart => exact ⟨rfl, rfl⟩
  case round =>
    obtain ⟨rfl, rfl⟩ := hrel
    go_wp2
    go_ret
    exact ⟨rfl, Only.refl _ _⟩
set_option maxRecDepth 100000 in
theorem dvocabs_none (a : Option Addr) (n c : Nat) (w : World) : Calls Tryz.prog 23 #[.agg #[.slice none 0 0, .slice a n c]] w fun e w' => e = .returned (.bool true) ∧ Only (fun _ => False) w w' := by
  have O : Hid (Only (fun _ => False) w w) := Only.refl _ _
  have HU : Hid (∀ w1, Calls Tryz.prog 35 #[.agg #[.slice none 0 0, .slice a n c]] w1 fun e w' => ∃ ao cp, e = .returned (.slice ao 0 cp) ∧ Hid (Only (fun _ => False) w1 w')) := fun w1 => duses_none a n c w1
  have HC : Hid (∀ ao cp w1, Calls Tryz.prog 34 #[.slice ao 0 cp] w1 fun e w' => e = .returned (.bool false) ∧ Only (fun _ => False) w1 w') := fun ao cp w1 => dcircle_none ao cp w1
  obtain ⟨W, hW⟩ : ∃ W, W = w.alloc (.cells #[.slice none 0 0, .slice a n c] 33) := ⟨_, rfl⟩
  have oW : Only (fun _ => False) w W := by rw [hW]; exact (Only.refl _ _).alloc _
  have e0 : W.cell? ⟨w.heap.size, 0, none⟩ = some (.slice none 0 0) := by rw [hW]; exact (vblk_cells (valloc_at _ _ _ rfl) 0).trans rfl
  have e1 : W.cell? ⟨w.heap.size, 1, none⟩ = some (.slice a n c) := by rw [hW]; exact (vblk_cells (valloc_at _ _ _ rfl) 1).trans rfl
  have OW : Hid (Only (fun _ => False) w W) := oW
  clear oW
  go_enter Tryz.func23, Tryz.ntmps23
  go_wp2
  rw [← hW]
  clear hW
  go_loopw [11] (fun a wr => a = .int .i64 0 ∧ wr = W) (fun _ _ => 0)
  case atStart => exact ⟨rfl, rfl⟩
  case round =>
    obtain ⟨rfl, hwr⟩ := hrel
    rw [hwr]
    clear hwr
    go_wp2
    go_loopw [31] (fun a wr => a = .int .i64 0 ∧ wr = W) (fun _ _ => 0)
    case atStart => exact ⟨rfl, rfl⟩
    case round =>
      obtain ⟨rfl, hwr⟩ := hrel
      rw [hwr]
      clear hwr
      go_wp2_with fail
      refine (show Calls Tryz.prog 35 _ _ _ from HU.out _).mono ?_
      rintro e w1 ⟨ao, cp, rfl, o1⟩
      clear HU
      go_wp2_with fail
      refine (show Calls Tryz.prog 34 _ _ _ from HC.out _ _ _).mono ?_
      rintro e w2 ⟨rfl, o2⟩
      have O2 : Hid (Only (fun _ => False) w w2) := (OW.out.trans o1.out (fun _ _ g => g)).trans o2 (fun _ _ g => g)
      clear HC o2 o1
      go_wp2
      go_ret
      exact ⟨rfl, O2.out⟩
end Go.Proofs.YtdkbioahhkmpoaaGreatDoor
namespace Go.Proofs.YtdkbioahhkmpoaaGreatDoor
open Go.RowKit Go.Lib
set_option linter.unusedSimpArgs false
set_option linter.unusedVariables false
/-- the numbers of the boxes in a value, in an item -/
def bxL : Nat → Bool → Vt → List Int
  | 0, _, _ => []
  | d + 1, true, t => if t.k = 7 then [] else bxL d false t
  | d + 1, false, t => if t.k = 6 then [t.n] else if t.k = 4 then t.l.flatMap (bxL d false) else if t.k = 5 then t.l.flatMap (bxL d true) else []
/-- a row of numbers of one's own since block B -/
def BnAt (w : World) (B : Nat) (v : Value) (ns : List Int) : Prop := w.ownsRow B 3 1 v ns.length (ns.map (Value.int .i64))
theorem bn_nil (w : World) (B : Nat) : BnAt w B (.slice none 0 0) [] := ⟨rfl, .inl ⟨rfl, rfl⟩⟩
theorem BnAt.form {w : World} {B : Nat} {v : Value} {ns : List Int} (h : BnAt w B v ns) : ∃ ao cap, v = .slice ao ns.length cap := by
  rcases h.2 with ⟨h1, h2⟩ | ⟨g, cap, cur, h1, _⟩
  · exact ⟨_, _, by rw [h1, h2]⟩
  · exact ⟨_, _, h1⟩
theorem BnAt.only {w w' : World} {B : Nat} {v : Value} {ns : List Int} {bs : Nat → Prop} (h : BnAt w B v ns) (o : Only bs w w') (hb : ∀ b, B ≤ b → b < w.heap.size → ¬ bs b) : BnAt w' B v ns := o.owns h (fun k hk => hb k (h.lt k hk).1 (h.lt k hk).2)
theorem bninfo : (Tryz.prog.info? 3).map (fun i => (i.zero, i.size, i.bytes)) = some (some (.int .i64 0), 1, 8) := by kernel_rfl
/-- a number is put behind a row -/
theorem app_bn {w : World} {B : Nat} {v : Value} {ns : List Int} {n : Int} (hf : BnAt w B v ns) (hB : B ≤ w.heap.size) (hl : ns.length ≤ 1048576) :
    ∃ v' w', (∀ ty, (Builtin.append_ #[104, 104] ty #[v, .slice (some ⟨w.heap.size, 0, none⟩) 1 1]).run Tryz.prog (w.alloc (.cells #[.int .i64 n] 3)) = .ok v' w') ∧ BnAt w' B v' (ns ++ [n]) ∧ Only (fun k => v.ownBlock = some k) w w' := by
  obtain ⟨i0, hi, hz0, hz1, hz2⟩ := vinfo_parts bninfo
  obtain ⟨W, hW⟩ : ∃ W, W = w.alloc (.cells #[.int .i64 n] 3) := ⟨_, rfl⟩
  have oo : Only (fun _ => False) w W := by rw [hW]; exact (Only.refl _ w).alloc _
  have hf2 : BnAt W B v ns := hf.only oo (fun _ _ _ h => h)
  have hblk : W.heap[w.heap.size]? = some (.cells #[.int .i64 n] 3) := by rw [hW]; exact valloc_at _ _ _ rfl
  have key := fun ty => run_append_own_at (P := Tryz.prog) W B 104 ty 3 i0 (.int .i64 0) 1 8 Tryz.underlying104 hi hz0 hz1 hz2 rfl (by omega) v ns.length (ns.map (Value.int .i64)) hf2 ⟨w.heap.size, 0, none⟩ 1 1 [.int .i64 n] rfl (by
      intro j u hj
      rw [addr_ad, vblk_cells hblk]
      simpa using hj) (by
      intro u hu
      simp only [List.mem_cons, List.not_mem_nil, or_false] at hu
      subst hu
      rfl) (by unfold maxLen; omega) (by omega) (by have := oo.size; omega)
  obtain ⟨v', w', hr, own', hg, _, hat⟩ := key 0
  refine ⟨v', w', fun ty => ?_, ?_, (oo.mono (bs' := fun k => v.ownBlock = some k) (fun _ _ h => h.elim)).trans ((Only.refl (fun k => v.ownBlock = some k) W).grown hg (fun k e _ => e)) (fun k hk e => e)⟩
  · rw [← hW, ← hr]
    rfl
  · unfold BnAt
    simpa using own'
/-- what addBoxes, addItemBoxes answer -/
def BxC (d F : Nat) (i : Bool) : Prop := ∀ (t : Vt) (v : Value) (w0 : World) (S : Nat → Prop), TiAt w0 S d i t v → okV d i t = true → (∃ e, SmT e t) → ∀ (w : World) (ao : Option Addr) (n cap : Nat) (ns : List Int), Only (fun _ => False) w0 w → BnAt w w0.heap.size (.slice ao n cap) ns → ns.length + (bxL d i t).length ≤ 1000000 →
  Calls Tryz.prog F #[.slice ao n cap, v] w fun e w' => ∃ ao' n' cap', e = .returned (.slice ao' n' cap') ∧ Hid (BnAt w' w0.heap.size (.slice ao' n' cap') (ns ++ bxL d i t) ∧ Only (fun _ => False) w0 w')
/-- how an append is met in the walk -/
theorem bn_app {w0 w : World} {ao : Option Addr} {n cap : Nat} {ns : List Int} (z : Int) (o : Only (fun _ => False) w0 w) (h : BnAt w w0.heap.size (.slice ao n cap) ns) (hl : ns.length ≤ 1000000) (b : Nat) (hb : b = w.heap.size) :
    ∃ ao' cap' w', (∀ ty, (Builtin.append_ #[104, 104] ty #[.slice ao n cap, .slice (some ⟨b, 0, none⟩) 1 1]).run Tryz.prog (w.alloc (.cells #[.int .i64 z] 3)) = .ok (.slice ao' (ns.length + 1) cap') w') ∧ BnAt w' w0.heap.size (.slice ao' (ns.length + 1) cap') (ns ++ [z]) ∧ Only (fun _ => False) w0 w' := by
  subst hb
  obtain ⟨v', w', hr, hw, o2⟩ := app_bn (n := z) h o.size (by omega)
  obtain ⟨ao', cap', hf⟩ := hw.form
  rw [List.length_append, List.length_singleton] at hf
  subst hf
  exact ⟨ao', cap', w', hr, hw, o.trans o2 (fun b hb e => by have := (h.lt b e).1; omega)⟩
set_option maxRecDepth 100000 in
theorem bx_int (n1 : Int) (w : World) (ao : Option Addr) (n cap : Nat) :
    Calls Tryz.prog 51 #[.slice ao n cap, .iface 216 (.agg #[.int .i64 n1])] w fun e w' => e = .returned (.slice ao n cap) ∧ Only (fun _ => False) w w' := by
  have mBox := va_miss 216 141 76 _ Tryz.underlying141 (by intro m h; cases h) (by decide) _ zB
  have mList := va_miss 216 132 76 _ Tryz.underlying132 (by intro m h; cases h) (by decide) _ zL
  have mQuot := va_miss 216 80 76 _ Tryz.underlying80 (by intro m h; cases h) (by decide) _ zQ
  have O : Hid (Only (fun _ => False) w w) := Only.refl _ _
  go_enter Tryz.func51, Tryz.ntmps51
  go_wp2
  go_ret
  exact ⟨rfl, by repeat' first | exact O.out | apply Only.alloc⟩
set_option maxRecDepth 100000 in
theorem bx_str (s1 : ByteArray) (w : World) (ao : Option Addr) (n cap : Nat) :
    Calls Tryz.prog 51 #[.slice ao n cap, .iface 219 (.agg #[.string s1])] w fun e w' => e = .returned (.slice ao n cap) ∧ Only (fun _ => False) w w' := by
  have mBox := va_miss 219 141 76 _ Tryz.underlying141 (by intro m h; cases h) (by decide) _ zB
  have mList := va_miss 219 132 76 _ Tryz.underlying132 (by intro m h; cases h) (by decide) _ zL
  have mQuot := va_miss 219 80 76 _ Tryz.underlying80 (by intro m h; cases h) (by decide) _ zQ
  have O : Hid (Only (fun _ => False) w w) := Only.refl _ _
  go_enter Tryz.func51, Tryz.ntmps51
  go_wp2
  go_ret
  exact ⟨rfl, by repeat' first | exact O.out | apply Only.alloc⟩
set_option maxRecDepth 100000 in
theorem bx_bool (b1 : Bool) (w : World) (ao : Option Addr) (n cap : Nat) :
    Calls Tryz.prog 51 #[.slice ao n cap, .iface 222 (.agg #[.bool b1])] w fun e w' => e = .returned (.slice ao n cap) ∧ Only (fun _ => False) w w' := by
  have mBox := va_miss 222 141 76 _ Tryz.underlying141 (by intro m h; cases h) (by decide) _ zB
  have mList := va_miss 222 132 76 _ Tryz.underlying132 (by intro m h; cases h) (by decide) _ zL
  have mQuot := va_miss 222 80 76 _ Tryz.underlying80 (by intro m h; cases h) (by decide) _ zQ
  have O : Hid (Only (fun _ => False) w w) := Only.refl _ _
  go_enter Tryz.func51, Tryz.ntmps51
  go_wp2
  go_ret
  exact ⟨rfl, by repeat' first | exact O.out | apply Only.alloc⟩
set_option maxRecDepth 100000 in
theorem bx_box (n1 : Int) (w0 w : World) (ao : Option Addr) (n cap : Nat) (ns : List Int) (o : Only (fun _ => False) w0 w) (h : BnAt w w0.heap.size (.slice ao n cap) ns) (hl : ns.length ≤ 1000000) :
    Calls Tryz.prog 51 #[.slice ao n cap, .iface 141 (.agg #[.int .i64 n1])] w fun e w' => ∃ ao' n' cap', e = .returned (.slice ao' n' cap') ∧ Hid (BnAt w' w0.heap.size (.slice ao' n' cap') (ns ++ [n1]) ∧ Only (fun _ => False) w0 w') := by
  have hBox := va_hit 141 76 _ Tryz.underlying141 (by intro m h; cases h)
  obtain ⟨W, hW⟩ : ∃ W, W = w.alloc (.cells #[.int .i64 n1] 141) := ⟨_, rfl⟩
  have O1 : Only (fun _ => False) w W := by rw [hW]; exact (Only.refl _ w).alloc _
  obtain ⟨ao', cap', w2, hr, hw2, o2⟩ := bn_app n1 (o.trans O1 (fun _ _ g => g)) (h.only O1 (fun _ _ _ g => g)) hl (w.heap.size + 1) (by rw [hW]; simp)
  rw [hW] at hr
  have HR : Hid _ := hr
  have H2 : Hid (BnAt w2 w0.heap.size (.slice ao' (ns.length + 1) cap') (ns ++ [n1]) ∧ Only (fun _ => False) w0 w2) := ⟨hw2, o2⟩
  obtain ⟨L, hL⟩ : ∃ L, L = ns.length + 1 := ⟨_, rfl⟩
  rw [← hL] at HR H2
  clear O1 hr hw2 o2 hL hW o h hl
  go_enter Tryz.func51, Tryz.ntmps51
  go_wp2_with (at_builtin; refine vwpList_append_run rfl _ _ 104 rfl _ _ _ rfl rfl HR.out ?_)
  go_ret
  exact ⟨ao', L, cap', rfl, H2⟩
set_option maxRecDepth 100000 in
set_option maxHeartbeats 4000000 in
theorem bx_list (d : Nat) (H : BxC d 51 false) (l : List Vt) (la : Option Addr) (lc : Nat) (w0 : World) (S : Nat → Prop) (hel : ∀ (j : Nat) (x : Vt), l[j]? = some x → ∃ g k u, la = some ⟨g, k, none⟩ ∧ S g ∧ w0.cell? ⟨g, k + j, none⟩ = some u ∧ TiAt w0 S d false x u) (hok : ∀ x ∈ l, okV d false x = true) (hsm : ∀ x ∈ l, ∃ e, SmT e x) (hlen : l.length ≤ 2513169434900) (w : World) (ao : Option Addr) (n cap : Nat) (ns : List Int) (o : Only (fun _ => False) w0 w) (h : BnAt w w0.heap.size (.slice ao n cap) ns) (hb : ns.length + (l.flatMap (bxL d false)).length ≤ 1000000) :
    Calls Tryz.prog 51 #[.slice ao n cap, .iface 132 (.agg #[.slice la l.length lc])] w fun e w' => ∃ ao' n' cap', e = .returned (.slice ao' n' cap') ∧ Hid (BnAt w' w0.heap.size (.slice ao' n' cap') (ns ++ l.flatMap (bxL d false)) ∧ Only (fun _ => False) w0 w') := by
  have HE : Hid (∀ (j : Nat) (x : Vt), l[j]? = some x → ∃ g k u, la = some ⟨g, k, none⟩ ∧ w0.cell? ⟨g, k + j, none⟩ = some u ∧ (u = .nilIface ∨ ∃ T y, u = .iface T y) ∧ ∀ (w1 : World) (ao : Option Addr) (n cap : Nat) (ns : List Int), Only (fun _ => False) w0 w1 → BnAt w1 w0.heap.size (.slice ao n cap) ns → ns.length + (bxL d false x).length ≤ 1000000 → Calls Tryz.prog 51 #[.slice ao n cap, u] w1 fun e w' => ∃ ao' n' cap', e = .returned (.slice ao' n' cap') ∧ Hid (BnAt w' w0.heap.size (.slice ao' n' cap') (ns ++ bxL d false x) ∧ Only (fun _ => False) w0 w')) := by
    intro j x hx
    obtain ⟨g, k, u, p1, p2, p3, p4⟩ := hel j x hx
    exact ⟨g, k, u, p1, p3, p4.shape, H x u w0 S p4 (hok x (List.mem_of_getElem? hx)) (hsm x (List.mem_of_getElem? hx))⟩
  obtain ⟨N, hN⟩ : ∃ N, N = l.length := ⟨_, rfl⟩
  have HN : Hid (N = l.length ∧ N ≤ 2513169434900 ∧ ns.length + (l.flatMap (bxL d false)).length ≤ 1000000) := ⟨hN, by omega, hb⟩
  rw [← hN]
  have mBox := va_miss 132 141 76 _ Tryz.underlying141 (by intro m h; cases h) (by decide) _ zB
  have hList := va_hit 132 76 _ Tryz.underlying132 (by intro m h; cases h)
  have HS1 : Hid (∀ w1, Only (fun _ => False) w w1 → BnAt w1 w0.heap.size (.slice ao n cap) ns ∧ Only (fun _ => False) w0 w1) := fun w1 o1 => ⟨h.only o1 (fun _ _ _ g => g), o.trans o1 (fun _ _ g => g)⟩
  have O : Hid (Only (fun _ => False) w w) := Only.refl _ _
  clear h o hel hok hsm hlen hb hN H
  go_enter Tryz.func51, Tryz.ntmps51
  go_wp2
  obtain ⟨wS, hwS⟩ : ∃ x, x = (w.alloc (.cells #[.int .i64 0] 141)).alloc (.cells #[.slice la N lc] 132) := ⟨_, rfl⟩
  have HS2 : Hid (BnAt wS w0.heap.size (.slice ao n cap) ns ∧ Only (fun _ => False) w0 wS) := HS1.out wS (by rw [hwS]; repeat' first | exact O.out | apply Only.alloc)
  rw [← hwS]
  clear hwS HS1 O
  go_loopw [0, 35] (fun r0 r27 wr => ∃ (j : Nat) (a' : Option Addr) (n' c' : Nat), r27 = .int .i64 (j : Int) ∧ j ≤ N ∧ r0 = .slice a' n' c' ∧ Hid (BnAt wr w0.heap.size (.slice a' n' c') (ns ++ (l.take j).flatMap (bxL d false)) ∧ Only (fun _ => False) w0 wr)) (fun _ r27 _ => N - vuOf r27)
  case atStart => exact ⟨0, ao, n, cap, rfl, Nat.zero_le _, rfl, by simpa using HS2.out.1, HS2.out.2⟩
  case round =>
    obtain ⟨j, a', n', c', rfl, hj, rfl, HI⟩ := hrel
    obtain ⟨w2, hw2⟩ : ∃ w2, w2 = wr := ⟨_, rfl⟩
    rw [← hw2] at HI ⊢
    clear hw2
    have hNl := HN.out.1
    have hN2 := HN.out.2.1
    have hN3 := HN.out.2.2
    by_cases hjN : j < N
    · obtain ⟨x, hx⟩ : ∃ x, l[j]? = some x := ⟨l[j]'(by omega), List.getElem?_eq_getElem (by omega)⟩
      obtain ⟨g, k, u, rfl, h0, hsh, hcall⟩ := HE.out j x hx
      have c0 := HI.out.2.cell h0 (fun g => g)
      have htk : (l.take (j + 1)).flatMap (bxL d false) = (l.take j).flatMap (bxL d false) ++ bxL d false x := by
        rw [List.take_add_one, hx]
        simp
      have hle : ((l.take (j + 1)).flatMap (bxL d false)).length ≤ (l.flatMap (bxL d false)).length := by
        conv => rhs; rw [← List.take_append_drop (j + 1) l]
        rw [List.flatMap_append, List.length_append]
        omega
      have HC : Hid _ := hcall w2 a' n' c' _ HI.out.2 HI.out.1 (by
        rw [htk, List.length_append] at hle
        simp only [List.length_append]
        omega)
      have HX : Hid (j < N ∧ (l.take (j + 1)).flatMap (bxL d false) = (l.take j).flatMap (bxL d false) ++ bxL d false x) := ⟨hjN, htk⟩
      have i1 : (j : Int) < (N : Int) := by omega
      have i0 : (0 : Int) ≤ (j : Int) := by omega
      have i4 : j ≤ 2513169434900 := by omega
      clear h0 hcall hNl hN2 hN3 hjN hj hx htk hle HI HE
      rcases hsh with rfl | ⟨T, y, rfl⟩
      all_goals
        go_wp2_with fail
        refine (show Calls Tryz.prog 51 _ _ _ from HC.out).mono ?_
        rintro e w3 ⟨a3, n3, c3, rfl, G3⟩
        have HF : Hid (BnAt w3 w0.heap.size (.slice a3 n3 c3) (ns ++ (l.take (j + 1)).flatMap (bxL d false)) ∧ Only (fun _ => False) w0 w3) := by
          rw [HX.out.2, ← List.append_assoc]
          exact G3.out
        clear HC G3 c0
        go_wp2
        go_roundw
        case rel => exact ⟨j + 1, a3, n3, c3, by go_num, by have := HX.out.1; omega, rfl, HF⟩
        case measure => simp only [vuOf]; have := HX.out.1; omega
    · obtain rfl : j = N := by omega
      have i1 : ¬ (j : Int) < (j : Int) := by omega
      have hI := HI.out
      rw [show l.take j = l from by rw [hNl]; exact List.take_length] at hI
      have HF : Hid (BnAt w2 w0.heap.size (.slice a' n' c') (ns ++ l.flatMap (bxL d false)) ∧ Only (fun _ => False) w0 w2) := hI
      clear HI hI hNl hN2 hN3 hjN hj HE
      have mQ := va_miss 132 80 76 _ Tryz.underlying80 (by intro m h; cases h) (by decide) _ zQ
      go_wp2
      go_ret
      exact ⟨a', n', c', rfl, HF.out.1.only (by repeat' first | exact Only.refl _ _ | apply Only.alloc) (fun _ _ _ g => g), by repeat' first | exact HF.out.2 | apply Only.alloc⟩
set_option maxRecDepth 100000 in
set_option maxHeartbeats 4000000 in
theorem bx_quot (d : Nat) (H : BxC d 71 true) (l : List Vt) (la : Option Addr) (lc : Nat) (w0 : World) (S : Nat → Prop) (hel : ∀ (j : Nat) (x : Vt), l[j]? = some x → ∃ g k u, la = some ⟨g, k, none⟩ ∧ S g ∧ w0.cell? ⟨g, k + j, none⟩ = some u ∧ TiAt w0 S d true x u) (hok : ∀ x ∈ l, okV d true x = true) (hsm : ∀ x ∈ l, ∃ e, SmT e x) (hlen : l.length ≤ 2513169434900) (w : World) (ao : Option Addr) (n cap : Nat) (ns : List Int) (o : Only (fun _ => False) w0 w) (h : BnAt w w0.heap.size (.slice ao n cap) ns) (hb : ns.length + (l.flatMap (bxL d true)).length ≤ 1000000) :
    Calls Tryz.prog 51 #[.slice ao n cap, .iface 80 (.agg #[.slice la l.length lc])] w fun e w' => ∃ ao' n' cap', e = .returned (.slice ao' n' cap') ∧ Hid (BnAt w' w0.heap.size (.slice ao' n' cap') (ns ++ l.flatMap (bxL d true)) ∧ Only (fun _ => False) w0 w') := by
  have HE : Hid (∀ (j : Nat) (x : Vt), l[j]? = some x → ∃ g k u, la = some ⟨g, k, none⟩ ∧ w0.cell? ⟨g, k + j, none⟩ = some u ∧ (u = .nilIface ∨ ∃ T y, u = .iface T y) ∧ ∀ (w1 : World) (ao : Option Addr) (n cap : Nat) (ns : List Int), Only (fun _ => False) w0 w1 → BnAt w1 w0.heap.size (.slice ao n cap) ns → ns.length + (bxL d true x).length ≤ 1000000 → Calls Tryz.prog 71 #[.slice ao n cap, u] w1 fun e w' => ∃ ao' n' cap', e = .returned (.slice ao' n' cap') ∧ Hid (BnAt w' w0.heap.size (.slice ao' n' cap') (ns ++ bxL d true x) ∧ Only (fun _ => False) w0 w')) := by
    intro j x hx
    obtain ⟨g, k, u, p1, p2, p3, p4⟩ := hel j x hx
    exact ⟨g, k, u, p1, p3, p4.shape, H x u w0 S p4 (hok x (List.mem_of_getElem? hx)) (hsm x (List.mem_of_getElem? hx))⟩
  obtain ⟨N, hN⟩ : ∃ N, N = l.length := ⟨_, rfl⟩
  have HN : Hid (N = l.length ∧ N ≤ 2513169434900 ∧ ns.length + (l.flatMap (bxL d true)).length ≤ 1000000) := ⟨hN, by omega, hb⟩
  rw [← hN]
  have mBox := va_miss 80 141 76 _ Tryz.underlying141 (by intro m h; cases h) (by decide) _ zB
  have mList := va_miss 80 132 76 _ Tryz.underlying132 (by intro m h; cases h) (by decide) _ zL
  have hQuot := va_hit 80 76 _ Tryz.underlying80 (by intro m h; cases h)
  have HS1 : Hid (∀ w1, Only (fun _ => False) w w1 → BnAt w1 w0.heap.size (.slice ao n cap) ns ∧ Only (fun _ => False) w0 w1) := fun w1 o1 => ⟨h.only o1 (fun _ _ _ g => g), o.trans o1 (fun _ _ g => g)⟩
  have O : Hid (Only (fun _ => False) w w) := Only.refl _ _
  clear h o hel hok hsm hlen hb hN H
  go_enter Tryz.func51, Tryz.ntmps51
  go_wp2
  obtain ⟨wS, hwS⟩ : ∃ x, x = ((w.alloc (.cells #[.int .i64 0] 141)).alloc (.cells #[.slice none 0 0] 132)).alloc (.cells #[.slice la N lc] 80) := ⟨_, rfl⟩
  have HS2 : Hid (BnAt wS w0.heap.size (.slice ao n cap) ns ∧ Only (fun _ => False) w0 wS) := HS1.out wS (by rw [hwS]; repeat' first | exact O.out | apply Only.alloc)
  rw [← hwS]
  clear hwS HS1 O
  go_loopw [0, 52] (fun r0 r27 wr => ∃ (j : Nat) (a' : Option Addr) (n' c' : Nat), r27 = .int .i64 (j : Int) ∧ j ≤ N ∧ r0 = .slice a' n' c' ∧ Hid (BnAt wr w0.heap.size (.slice a' n' c') (ns ++ (l.take j).flatMap (bxL d true)) ∧ Only (fun _ => False) w0 wr)) (fun _ r27 _ => N - vuOf r27)
  case atStart => exact ⟨0, ao, n, cap, rfl, Nat.zero_le _, rfl, by simpa using HS2.out.1, HS2.out.2⟩
  case round =>
    obtain ⟨j, a', n', c', rfl, hj, rfl, HI⟩ := hrel
    obtain ⟨w2, hw2⟩ : ∃ w2, w2 = wr := ⟨_, rfl⟩
    rw [← hw2] at HI ⊢
    clear hw2
    have hNl := HN.out.1
    have hN2 := HN.out.2.1
    have hN3 := HN.out.2.2
    by_cases hjN : j < N
    · obtain ⟨x, hx⟩ : ∃ x, l[j]? = some x := ⟨l[j]'(by omega), List.getElem?_eq_getElem (by omega)⟩
      obtain ⟨g, k, u, rfl, h0, hsh, hcall⟩ := HE.out j x hx
      have c0 := HI.out.2.cell h0 (fun g => g)
      have htk : (l.take (j + 1)).flatMap (bxL d true) = (l.take j).flatMap (bxL d true) ++ bxL d true x := by
        rw [List.take_add_one, hx]
        simp
      have hle : ((l.take (j + 1)).flatMap (bxL d true)).length ≤ (l.flatMap (bxL d true)).length := by
        conv => rhs; rw [← List.take_append_drop (j + 1) l]
        rw [List.flatMap_append, List.length_append]
        omega
      have HC : Hid _ := hcall w2 a' n' c' _ HI.out.2 HI.out.1 (by
        rw [htk, List.length_append] at hle
        simp only [List.length_append]
        omega)
      have HX : Hid (j < N ∧ (l.take (j + 1)).flatMap (bxL d true) = (l.take j).flatMap (bxL d true) ++ bxL d true x) := ⟨hjN, htk⟩
      have i1 : (j : Int) < (N : Int) := by omega
      have i0 : (0 : Int) ≤ (j : Int) := by omega
      have i4 : j ≤ 2513169434900 := by omega
      clear h0 hcall hNl hN2 hN3 hjN hj hx htk hle HI HE
      rcases hsh with rfl | ⟨T, y, rfl⟩
      all_goals
        go_wp2_with fail
        refine (show Calls Tryz.prog 71 _ _ _ from HC.out).mono ?_
        rintro e w3 ⟨a3, n3, c3, rfl, G3⟩
        have HF : Hid (BnAt w3 w0.heap.size (.slice a3 n3 c3) (ns ++ (l.take (j + 1)).flatMap (bxL d true)) ∧ Only (fun _ => False) w0 w3) := by
          rw [HX.out.2, ← List.append_assoc]
          exact G3.out
        clear HC G3 c0
        go_wp2
        go_roundw
        case rel => exact ⟨j + 1, a3, n3, c3, by go_num, by have := HX.out.1; omega, rfl, HF⟩
        case measure => simp only [vuOf]; have := HX.out.1; omega
    · obtain rfl : j = N := by omega
      have i1 : ¬ (j : Int) < (j : Int) := by omega
      have hI := HI.out
      rw [show l.take j = l from by rw [hNl]; exact List.take_length] at hI
      have HF : Hid (BnAt w2 w0.heap.size (.slice a' n' c') (ns ++ l.flatMap (bxL d true)) ∧ Only (fun _ => False) w0 w2) := hI
      clear HI hI hNl hN2 hN3 hjN hj HE
      go_wp2
      go_ret
      exact ⟨a', n', c', rfl, HF⟩
end Go.Proofs.YtdkbioahhkmpoaaGreatDoor
namespace Go.Proofs.YtdkbioahhkmpoaaGreatDoor
open Go.RowKit
set_option linter.unusedSimpArgs false
set_option linter.unusedVariables false

attribute [local go_sem] Oper.semAt_some

/-- The block in which the numbers lie stands. -/
def KpP (Pb : Nat) (W W' : World) : Prop := W'.heap[Pb]? = W.heap[Pb]?
def intEnc (x : Int) : Array Value := #[.int .i64 x]
theorem take_succ_getD (zs : List Int) (k : Nat) (h : k < zs.length) : zs.take (k + 1) = zs.take k ++ [zs.getD k 0] := by
  rw [List.take_succ_eq_append_getElem h]
  simp [List.getD, h]
/-- Numbers in memory: nil, or cells of the block Pb. -/
def IntsIn (w : World) (Pb : Nat) (sv : Value) (zs : List Int) : Prop :=
  (sv = .slice none 0 0 ∧ zs = []) ∨ ∃ off cap, sv = .slice (some ⟨Pb, off, none⟩) zs.length cap ∧ ∀ j, j < zs.length → w.cell? ⟨Pb, off + j, none⟩ = some (.int .i64 (zs.getD j 0))

set_option maxRecDepth 100000 in
set_option maxHeartbeats 2000000 in
theorem values_core (m : Nat) (l Bs Pb off cap : Nat) (zs : List Int) (hlen : zs.length ≤ maxLen) (J Jx : List Int → World → Prop)
    (hY : ∀ k W, k < zs.length → J (zs.take k) W → YieldAt Fence.wide (m - 1) Tryz.prog l (intEnc (zs.getD k 0)) W fun e W' =>
      (e = .returned (.bool true) ∧ J (zs.take k ++ [zs.getD k 0]) W' ∧ KpP Pb W W') ∨ (e = .returned (.bool false) ∧ Jx (zs.take k ++ [zs.getD k 0]) W'))
    (W : World) (hBs : W.cell? ⟨Bs, 0, none⟩ = some (.slice (some ⟨Pb, off, none⟩) zs.length cap)) (hc : ∀ j, j < zs.length → W.cell? ⟨Pb, off + j, none⟩ = some (.int .i64 (zs.getD j 0))) (h0 : J [] W) :
    CallsIn Fence.wide m Tryz.prog 70 #[.func (.yield l) #[] #[], .pointer (some ⟨Bs, 0, none⟩)] W fun e W' => (∃ v, e = .returned v) ∧ (J zs W' ∨ ∃ k, k ≤ zs.length ∧ Jx (zs.take k) W') := by
  unfold maxLen at hlen
  refine callsIn_of_wp Tryz.func70 rfl trivial ?_ rfl
  simp only [Tryz.ntmps70, List.size_toArray, List.length_cons, List.length_nil, Nat.reduceAdd, Nat.reduceSub, Array.replicate_succ, Array.replicate_zero, List.push_toArray, List.append_toArray, List.nil_append, List.cons_append]
  gi_wp2
  gi_loopw [7] (fun i wr => ∃ k : Nat, k ≤ zs.length ∧ i = .int .i64 k ∧ J (zs.take k) wr ∧ KpP Pb W wr) (fun i _ => zs.length - (intOf i).toNat)
  case atStart => exact ⟨0, Nat.zero_le _, rfl, h0, rfl⟩
  case round =>
    obtain ⟨k, hk, rfl, hJ, hkp⟩ := hrel
    by_cases hlt : k < zs.length
    · obtain ⟨fn, tmps, assign, body, hyr, hR⟩ := hY k wr hlt hJ
      have hcx : wr.cell? ⟨Pb, off + k, none⟩ = some (.int .i64 (zs.getD k 0)) := (World.cell?_of_block (w := W) (show wr.heap[Pb]? = W.heap[Pb]? from hkp)).trans (hc k hlt)
      have hj0 : (0 : Int) ≤ (k : Int) := Int.natCast_nonneg _
      have hj1 : (k : Int) < (zs.length : Int) := by omega
      have HT := take_succ_getD zs k hlt
      obtain ⟨z, hz⟩ : ∃ z, z = zs.getD k 0 := ⟨_, rfl⟩
      rw [← hz] at hyr hR hcx HT
      have HT' : Hid _ := HT
      have HKP : Hid (KpP Pb W wr) := hkp
      unfold intEnc at hyr
      clear hY hc h0 hBs hkp hz HT hJ
      gi_wp2
      refine ⟨fun h => (by simp [Fence.wide] at h), hR.mono ?_⟩
      rintro e W3 (⟨rfl, hJ3, hk3⟩ | ⟨rfl, hJx3⟩)
      · have HK4 : Hid (KpP Pb W W3) := Eq.trans hk3 HKP.out
        clear hk3
        gi_wp2
        go_roundw
        case rel => exact ⟨k + 1, by omega, by simp, by rw [HT'.out]; exact hJ3, HK4.out⟩
        case measure => simp [intOf]; omega
      · gi_wp2
        refine bodyPost_ret (results_none rfl _ _ _) rfl ?_
        exact ⟨⟨_, rfl⟩, .inr ⟨k + 1, by omega, by rw [HT'.out]; exact hJx3⟩⟩
    · obtain rfl : k = zs.length := by omega
      rw [List.take_length] at hJ
      clear hY hc h0 hBs hkp
      gi_wp2
      go_end0
      exact ⟨⟨_, rfl⟩, .inl hJ⟩
set_option maxRecDepth 100000 in
set_option maxHeartbeats 1000000 in
theorem values_none (m l Bs : Nat) (J : World → Prop) (W : World) (hBs : W.cell? ⟨Bs, 0, none⟩ = some (.slice none 0 0)) (h0 : J W) :
    CallsIn Fence.wide m Tryz.prog 70 #[.func (.yield l) #[] #[], .pointer (some ⟨Bs, 0, none⟩)] W fun e W' => (∃ v, e = .returned v) ∧ J W' := by
  refine callsIn_of_wp Tryz.func70 rfl trivial ?_ rfl
  simp only [Tryz.ntmps70, List.size_toArray, List.length_cons, List.length_nil, Nat.reduceAdd, Nat.reduceSub, Array.replicate_succ, Array.replicate_zero, List.push_toArray, List.append_toArray, List.nil_append, List.cons_append]
  gi_wp2
  gi_loopw [7] (fun i wr => i = .int .i64 0 ∧ J wr) (fun _ _ => 0)
  case atStart => exact ⟨rfl, h0⟩
  case round =>
    obtain ⟨rfl, hJ⟩ := hrel
    gi_wp2
    go_end0
    exact ⟨⟨_, rfl⟩, hJ⟩
set_option maxRecDepth 100000 in
set_option maxHeartbeats 1000000 in
/-- slices.Values boxes the slice; the function that it answers has the box. -/
theorem values_in (m : Nat) (a : Option Addr) (n c : Nat) (w : World) :
    CallsIn Fence.wide m Tryz.prog 50 #[.slice a n c] w fun e w' => e = .returned (.func (.func 70) #[] #[.pointer (some ⟨w.heap.size, 0, none⟩)]) ∧ w' = w.alloc (.cells #[.slice a n c] 104) := by
  refine callsIn_of_wp Tryz.func50 rfl trivial ?_ rfl
  simp only [Tryz.ntmps50, List.size_toArray, List.length_cons, List.length_nil, Nat.reduceAdd, Nat.reduceSub, Array.replicate_succ, Array.replicate_zero, List.push_toArray, List.append_toArray, List.nil_append, List.cons_append]
  gi_wp2
  go_ret
  exact ⟨rfl, rfl⟩
/-- .. and gives the numbers in their order. -/
theorem values_stops (m Bs Pb : Nat) (sv : Value) (zs : List Int) (w : World) (hl : zs.length ≤ maxLen) (hBs : w.cell? ⟨Bs, 0, none⟩ = some sv) (hi : IntsIn w Pb sv zs) (hP : Pb < w.heap.size) :
    SeqStopsK Fence.wide m Tryz.prog 70 #[.pointer (some ⟨Bs, 0, none⟩)] intEnc (KpP Pb) (fun ys => ys = zs) (fun _ => True) zs.length w := fun lo J Jx W hW _ _ hY h0 => by
  have hBl := World.block_lt_of_cell? w _ hBs
  have hBs' : W.cell? ⟨Bs, 0, none⟩ = some sv := (hW.cell (p := ⟨Bs, 0, none⟩) hBl).trans hBs
  rcases hi with ⟨rfl, rfl⟩ | ⟨off, cap, rfl, hc⟩
  · exact (values_none m lo Bs (J []) W hBs' h0).mono fun e W' ⟨he, hj⟩ => ⟨he, .inl ⟨_, rfl, hj⟩⟩
  · refine (values_core m lo Bs Pb off cap zs hl J Jx (fun k W1 hk hJ => ?_) W hBs' (fun j hj => (hW.cell (p := ⟨Pb, off + j, none⟩) hP).trans (hc j hj)) h0).mono ?_
    · exact hY (zs.take k) (zs.getD k 0) W1 hJ (by rw [List.length_take]; omega)
    · rintro e W' ⟨he, hj | ⟨k, _, hj⟩⟩
      · exact ⟨he, .inl ⟨_, rfl, hj⟩⟩
      · exact ⟨he, .inr ⟨_, trivial, hj⟩⟩
/-- a number by its place -/
def nthEnc (zs : List Int) (k : Nat) : Array Value := #[.int .i64 (zs.getD k 0)]
/-- slices.Values gives the numbers, each by its place; where it is stopped, a beginning of them was given. -/
theorem values_pre (m Bs Pb : Nat) (sv : Value) (zs : List Int) (w : World) (hl : zs.length ≤ maxLen) (hBs : w.cell? ⟨Bs, 0, none⟩ = some sv) (hi : IntsIn w Pb sv zs) (hP : Pb < w.heap.size) :
    SeqStopsK Fence.wide m Tryz.prog 70 #[.pointer (some ⟨Bs, 0, none⟩)] (nthEnc zs) (KpP Pb) (fun ys => ys = List.range zs.length) (fun ys => ys = List.range ys.length) zs.length w := fun lo J Jx W hW _ _ hY h0 => by
  have hBl := World.block_lt_of_cell? w _ hBs
  have hBs' : W.cell? ⟨Bs, 0, none⟩ = some sv := (hW.cell (p := ⟨Bs, 0, none⟩) hBl).trans hBs
  rcases hi with ⟨rfl, rfl⟩ | ⟨off, cap, rfl, hc⟩
  · exact (values_none m lo Bs (J []) W hBs' h0).mono fun e W' ⟨he, hj⟩ => ⟨he, .inl ⟨_, rfl, hj⟩⟩
  · have key : ∀ k, k < zs.length → List.range (zs.take k ++ [zs.getD k 0]).length = List.range (zs.take k).length ++ [k] := fun k hk => by
      rw [List.length_append, List.length_take, Nat.min_eq_left (by omega)]
      exact List.range_succ
    refine (values_core m lo Bs Pb off cap zs hl (fun ys W => J (List.range ys.length) W) (fun ys W => Jx (List.range ys.length) W) (fun k W1 hk hJ => ?_) W hBs' (fun j hj => (hW.cell (p := ⟨Pb, off + j, none⟩) hP).trans (hc j hj)) h0).mono ?_
    · have := hY (List.range (zs.take k).length) k W1 hJ (by rw [List.length_range, List.length_take]; omega)
      simp only [key k hk]
      exact this
    · rintro e W' ⟨he, hj | ⟨k, _, hj⟩⟩
      · exact ⟨he, .inl ⟨_, rfl, hj⟩⟩
      · exact ⟨he, .inr ⟨_, by simp, hj⟩⟩
end Go.Proofs.YtdkbioahhkmpoaaGreatDoor
