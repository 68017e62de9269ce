/- Equal values: those that hold no others; items; all; Equal. Copies of values: copied, copiedItem, Copy. Copies of all values of a stack: prim's copies. -/
import Derived.Test.YtbhpjakjlfkfiaaGreatDoorGag
import Derived.Test.YtbhpjakjlfkfiaaGreatDoorGae
import Derived.Test.YtbhpjakjlfkfiaaGreatDoorGaf
namespace Go.Proofs.YtbhpjakjlfkfiaaGreatDoor
open Go.RowKit Go.Lib
set_option linter.unusedSimpArgs false
set_option linter.unusedVariables false
theorem sm_ne (d : Nat) {a b : Vt} (h : a.k ≠ b.k) : smV (d + 1) false a b = false := by
  show (decide (a.k = b.k) && _) = _
  rw [decide_eq_false h, Bool.false_and]
theorem eq_leaf {w : World} {S : Nat → Prop} {d : Nat} {a b : Vt} {va vb : Value} (h1 : TiAt w S (d + 1) false a va) (h2 : TiAt w S (d + 1) false b vb) (hk : ¬ (a.k = 4 ∨ a.k = 5)) (ha8 : a.k ≠ 8) (hb8 : b.k ≠ 8) (W : World) : (binOp .eql 51 va vb).run Tryz.prog W = .ok (.bool (smV (d + 1) false a b)) W := by
  obtain ⟨k, n, s, l⟩ := a
  obtain ⟨k', n', s', l'⟩ := b
  have hU := Tryz.underlying51
  rcases h1 with ⟨e, _, rfl⟩ | ⟨e, _, rfl⟩ | ⟨e, _, rfl⟩ | ⟨e, _, rfl⟩ | ⟨e, _, rfl⟩ | ⟨e, _⟩
  · simp only at e
    subst e
    rcases h2 with ⟨e', _, rfl⟩ | ⟨e', _, rfl⟩ | ⟨e', _, rfl⟩ | ⟨e', _, rfl⟩ | ⟨e', _, rfl⟩ | ⟨e', ao, cap, rfl, _⟩
    · simp only at e'
      subst e'
      exact eqv_int _ hU n n' W
    · simp only at e'
      subst e'
      exact eqv_ne _ _ _ hU _ _ (by decide) W
    · simp only at e'
      subst e'
      exact eqv_ne _ _ _ hU _ _ (by decide) W
    · simp only at e'
      subst e'
      exact eqv_ne _ _ _ hU _ _ (by decide) W
    · exact absurd e' hb8
    · simp only at e'
      rw [sm_ne d (by simp only; omega)]
      rcases e' with rfl | rfl <;> exact eqv_ne _ _ _ hU _ _ (by simp) W
  · simp only at e
    subst e
    rcases h2 with ⟨e', _, rfl⟩ | ⟨e', _, rfl⟩ | ⟨e', _, rfl⟩ | ⟨e', _, rfl⟩ | ⟨e', _, rfl⟩ | ⟨e', ao, cap, rfl, _⟩
    · simp only at e'
      subst e'
      exact eqv_ne _ _ _ hU _ _ (by decide) W
    · simp only at e'
      subst e'
      exact eqv_str _ hU s s' W
    · simp only at e'
      subst e'
      exact eqv_ne _ _ _ hU _ _ (by decide) W
    · simp only at e'
      subst e'
      exact eqv_ne _ _ _ hU _ _ (by decide) W
    · exact absurd e' hb8
    · simp only at e'
      rw [sm_ne d (by simp only; omega)]
      rcases e' with rfl | rfl <;> exact eqv_ne _ _ _ hU _ _ (by simp) W
  · simp only at e
    subst e
    rcases h2 with ⟨e', _, rfl⟩ | ⟨e', _, rfl⟩ | ⟨e', _, rfl⟩ | ⟨e', _, rfl⟩ | ⟨e', _, rfl⟩ | ⟨e', ao, cap, rfl, _⟩
    · simp only at e'
      subst e'
      exact eqv_ne _ _ _ hU _ _ (by decide) W
    · simp only at e'
      subst e'
      exact eqv_ne _ _ _ hU _ _ (by decide) W
    · simp only at e'
      subst e'
      exact eqv_bool _ hU (n != 0) (n' != 0) W
    · simp only at e'
      subst e'
      exact eqv_ne _ _ _ hU _ _ (by decide) W
    · exact absurd e' hb8
    · simp only at e'
      rw [sm_ne d (by simp only; omega)]
      rcases e' with rfl | rfl <;> exact eqv_ne _ _ _ hU _ _ (by simp) W
  · simp only at e
    subst e
    rcases h2 with ⟨e', _, rfl⟩ | ⟨e', _, rfl⟩ | ⟨e', _, rfl⟩ | ⟨e', _, rfl⟩ | ⟨e', _, rfl⟩ | ⟨e', ao, cap, rfl, _⟩
    · simp only at e'
      subst e'
      exact eqv_ne _ _ _ hU _ _ (by decide) W
    · simp only at e'
      subst e'
      exact eqv_ne _ _ _ hU _ _ (by decide) W
    · simp only at e'
      subst e'
      exact eqv_ne _ _ _ hU _ _ (by decide) W
    · simp only at e'
      subst e'
      exact eqv_box _ hU n n' W
    · exact absurd e' hb8
    · simp only at e'
      rw [sm_ne d (by simp only; omega)]
      rcases e' with rfl | rfl <;> exact eqv_ne _ _ _ hU _ _ (by simp) W
  · exact absurd e ha8
  · exact absurd e hk
set_option maxRecDepth 100000 in
theorem same_leaf (d : Nat) (a b : Vt) (va vb : Value) (w : World) (S : Nat → Prop) (h1 : TiAt w S (d + 1) false a va) (h2 : TiAt w S (d + 1) false b vb) (hk : ¬ (a.k = 4 ∨ a.k = 5)) (ha8 : a.k ≠ 8) (hb8 : b.k ≠ 8) : Calls Tryz.prog 125 #[va, vb] w fun e w' => e = .returned (.bool (smV (d + 1) false a b)) ∧ Only (fun _ => False) w w' := by
  have hEq := eq_leaf h1 h2 hk ha8 hb8
  obtain ⟨⟨hl, hq⟩, _⟩ := leaf_lq h1 hk
  have O0 : Hid (Only (fun _ => False) w w) := Only.refl _ _
  obtain ⟨Z, hZ⟩ : ∃ Z, Z = smV (d + 1) false a b := ⟨_, rfl⟩
  rw [← hZ] at hEq ⊢
  have HS : Hid (∃ T y, va = .iface T y) := h1.iface ha8
  have HS2 : Hid (∃ T y, vb = .iface T y) := h2.iface hb8
  clear h1 h2 hk ha8 hb8 hZ
  obtain ⟨T1, y1, rfl⟩ := HS.out
  obtain ⟨T2, y2, rfl⟩ := HS2.out
  go_enter Tryz.func125, Tryz.ntmps125
  go_wp2
  go_ret
  exact ⟨rfl, (by repeat' first | exact O0.out | apply Only.alloc)⟩
set_option maxRecDepth 100000 in
set_option maxHeartbeats 1000000 in
theorem same_item (d : Nat) (H : SaV d false 125) : SaV (d + 1) true 153 := by
  intro a b va vb w S h1 h2 ho1 ho2
  have hP := va_hit 125 112 _ Tryz.underlying125 (by intro m h; cases h)
  have mP := va_miss 147 125 112 _ Tryz.underlying125 (by intro m h; cases h) (by decide) _ vzero_Push
  have O0 : Hid (Only (fun _ => False) w w) := Only.refl _ _
  have no8 : ∀ t : Vt, okV (d + 1) true t = true → t.k ≠ 8 := by
    intro t h e
    have h : (if t.k = 7 then clB t.s else if t.k = 8 then false else okV d false t) = true := h
    rw [if_neg (by omega), if_pos e] at h
    cases h
  have okd : ∀ t : Vt, t.k ≠ 7 → okV (d + 1) true t = true → okV d false t = true := by
    intro t h7 h
    have h : (if t.k = 7 then clB t.s else if t.k = 8 then false else okV d false t) = true := h
    rw [if_neg h7] at h
    split at h
    · cases h
    · exact h
  rcases h1 with ⟨a7, _, rfl⟩ | ⟨a8, _, rfl⟩ | ⟨a7, a8, u, rfl, hu⟩
  · rcases h2 with ⟨b7, _, rfl⟩ | ⟨b8, _, rfl⟩ | ⟨b7, b8, u', rfl, hu'⟩
    · have hsm : smV (d + 1) true a b = (a.s.toList == b.s.toList) := by
        show (if a.k = 7 ∨ b.k = 7 then _ else _) = _
        rw [if_pos (.inl a7), decide_eq_true a7, decide_eq_true b7]
        rfl
      have hEq := eqv_call _ Tryz.underlying112 a.s b.s
      rw [hsm]
      obtain ⟨Z, hZ⟩ : ∃ Z, Z = (a.s.toList == b.s.toList) := ⟨_, rfl⟩
      rw [← hZ] at hEq ⊢
      obtain ⟨s, hs⟩ : ∃ s, s = a.s := ⟨_, rfl⟩
      obtain ⟨r, hr⟩ : ∃ r, r = b.s := ⟨_, rfl⟩
      rw [← hs, ← hr] at hEq ⊢
      clear ho1 ho2 no8 okd a7 b7 hsm hZ hs hr hP
      go_enter Tryz.func153, Tryz.ntmps153
      go_wp2
      go_ret
      exact ⟨rfl, (by repeat' first | exact O0.out | apply Only.alloc)⟩
    · exact absurd b8 (no8 b ho2.1)
    · have hsm : smV (d + 1) true a b = false := by
        show (if a.k = 7 ∨ b.k = 7 then _ else _) = _
        rw [if_pos (.inl a7), decide_eq_false b7]
        simp
      have hEq := eqv_ne 112 147 125 Tryz.underlying112 (.agg #[.string a.s]) (.agg #[u']) (by decide)
      rw [hsm]
      obtain ⟨s, hs⟩ : ∃ s, s = a.s := ⟨_, rfl⟩
      rw [← hs] at hEq ⊢
      clear ho1 ho2 no8 okd a7 b7 hsm hs hP hu'
      go_enter Tryz.func153, Tryz.ntmps153
      go_wp2
      go_ret
      exact ⟨rfl, (by repeat' first | exact O0.out | apply Only.alloc)⟩
  · exact absurd a8 (no8 a ho1.1)
  · obtain ⟨T1, y1, rfl⟩ := hu.iface a8
    rcases h2 with ⟨b7, _, rfl⟩ | ⟨b8, _, rfl⟩ | ⟨b7, b8, u', rfl, hu'⟩
    · have hsm : smV (d + 1) true a b = false := by
        show (if a.k = 7 ∨ b.k = 7 then _ else _) = _
        rw [if_pos (.inr b7), decide_eq_false a7]
        simp
      rw [hsm]
      obtain ⟨s, hs⟩ : ∃ s, s = b.s := ⟨_, rfl⟩
      rw [← hs]
      clear ho1 ho2 no8 okd a7 a8 b7 hsm hs hu
      go_enter Tryz.func153, Tryz.ntmps153
      go_wp2
      go_ret
      exact ⟨rfl, (by repeat' first | exact O0.out | apply Only.alloc)⟩
    · exact absurd b8 (no8 b ho2.1)
    · obtain ⟨T2, y2, rfl⟩ := hu'.iface b8
      have hsm : smV (d + 1) true a b = smV d false a b := by
        show (if a.k = 7 ∨ b.k = 7 then _ else _) = _
        rw [if_neg (by omega)]
      have HC : Hid (∀ w1, Only (fun _ => False) w w1 → Calls Tryz.prog 125 #[.iface T1 y1, .iface T2 y2] w1 fun e w' => e = .returned (.bool (smV d false a b)) ∧ Only (fun _ => False) w1 w') := fun w1 o1 => H a b _ _ w1 S (hu.only o1 (fun _ _ g => g)) (hu'.only o1 (fun _ _ g => g)) ⟨okd a a7 ho1.1, ho1.2⟩ ⟨okd b b7 ho2.1, ho2.2⟩
      rw [hsm]
      obtain ⟨Z, hZ⟩ : ∃ Z, Z = smV d false a b := ⟨_, rfl⟩
      rw [← hZ] at HC ⊢
      clear ho1 ho2 no8 okd a7 a8 b7 b8 hsm hZ hu hu' H
      go_enter Tryz.func153, Tryz.ntmps153
      go_wp2_with fail
      refine (show Calls Tryz.prog 125 _ _ _ from HC.out _ (by repeat' first | exact O0.out | apply Only.alloc)).mono ?_
      rintro e w1 ⟨rfl, o1⟩
      have O1 : Hid (Only (fun _ => False) w w1) := Only.trans (show Only (fun _ => False) w _ by repeat' first | exact (Only.refl _ _) | apply Only.alloc) o1 (fun _ _ g => g)
      clear HC o1
      go_wp2
      go_ret
      exact ⟨rfl, O1.out⟩
theorem same_val (d : Nat) (H1 : SaV d false 125) (H2 : SaV d true 153) : SaV (d + 1) false 125 := by
  intro a b va vb w S h1 h2 ho1 ho2
  by_cases h4 : a.k = 4
  · exact same_list d (ef_values d H1) a b va vb w S h1 h2 ho1 ho2 h4
  by_cases h5 : a.k = 5
  · exact same_quot d (ef_items d H2) a b va vb w S h1 h2 ho1 ho2 h5
  exact same_leaf d a b va vb w S h1 h2 (by omega) (ok_ne8 ho1.1) (ok_ne8 ho2.1)
theorem same_all : ∀ d : Nat, SaV d false 125 ∧ SaV d true 153
  | 0 => ⟨fun a b va vb w S h => h.elim, fun a b va vb w S h => h.elim⟩
  | d + 1 => ⟨same_val d (same_all d).1 (same_all d).2, same_item d (same_all d).1⟩
set_option maxRecDepth 100000 in
/-- Equal, of any two values -/
theorem vequal_any {d : Nat} {a b : Vt} {va vb : Value} {w : World} {S : Nat → Prop} (h1 : TiAt w S d false a va) (h2 : TiAt w S d false b vb) (hS : ∀ x, S x → x < w.heap.size) (hs1 : ∃ e, SmT e a) (hs2 : ∃ e, SmT e b) (hT : Tb w) : Calls Tryz.prog 98 #[va, vb] w fun e w' => e = .returned (.tuple #[.bool (sdB d a && sdB d b && smV d false a b), .int .i64 (if sdB d a && sdB d b then 0 else 1)]) ∧ Only (fun _ => False) w w' := by
  have ok : ∀ t, sdB d t = true → okV d false t = true := by
    intro t h
    unfold sdB msB at h
    simp only [Bool.and_eq_true] at h
    exact h.1.1
  have HA : Hid _ := vcheck_any h1 hS hs1 hT
  have HB : Hid (∀ w1, Only (fun _ => False) w w1 → Calls Tryz.prog 67 #[vb] w1 fun e w' => e = .returned (.int .i64 (if sdB d b then 0 else 1)) ∧ Only (fun _ => False) w1 w') := fun w1 o => vcheck_any (h2.only o (fun _ _ g => g)) (fun x hx => Nat.lt_of_lt_of_le (hS x hx) o.size) hs2 (hT.frame o)
  have HC : Hid (sdB d a = true → sdB d b = true → ∀ w1, Only (fun _ => False) w w1 → Calls Tryz.prog 125 #[va, vb] w1 fun e w' => e = .returned (.bool (smV d false a b)) ∧ Only (fun _ => False) w1 w') := fun p q w1 o => (same_all d).1 a b va vb w1 S (h1.only o (fun _ _ g => g)) (h2.only o (fun _ _ g => g)) ⟨ok a p, hs1⟩ ⟨ok b q, hs2⟩
  obtain ⟨X, hX⟩ : ∃ X, X = sdB d a := ⟨_, rfl⟩
  obtain ⟨Y, hY⟩ : ∃ Y, Y = sdB d b := ⟨_, rfl⟩
  obtain ⟨Z, hZ⟩ : ∃ Z, Z = smV d false a b := ⟨_, rfl⟩
  rw [← hX] at HA HC ⊢
  rw [← hY] at HB HC ⊢
  rw [← hZ] at HC ⊢
  clear h1 h2 hS hs1 hs2 hT ok hX hY hZ
  cases X with
  | false =>
    clear HB HC
    go_enter Tryz.func98, Tryz.ntmps98
    go_wp2_with fail
    refine (show Calls Tryz.prog 67 _ _ _ from HA.out).mono ?_
    rintro e w1 ⟨rfl, o1⟩
    have O1 : Hid (Only (fun _ => False) w w1) := o1
    clear HA o1
    go_wp2
    go_ret2
    exact ⟨rfl, O1.out⟩
  | true =>
    go_enter Tryz.func98, Tryz.ntmps98
    go_wp2_with fail
    refine (show Calls Tryz.prog 67 _ _ _ from HA.out).mono ?_
    rintro e w1 ⟨rfl, o1⟩
    have O1 : Hid (Only (fun _ => False) w w1) := o1
    have HB1 : Hid _ := HB.out w1 o1
    clear HA HB o1
    go_wp2_with fail
    refine (show Calls Tryz.prog 67 _ _ _ from HB1.out).mono ?_
    rintro e w2 ⟨rfl, o2⟩
    have O2 : Hid (Only (fun _ => False) w w2) := O1.out.trans o2 (fun _ _ g => g)
    clear HB1 o2 O1
    cases Y with
    | false =>
      go_wp2
      go_ret2
      exact ⟨rfl, O2.out⟩
    | true =>
      have HC2 : Hid _ := HC.out (by simp) (by simp) w2 O2.out
      clear HC
      go_wp2_with fail
      refine (show Calls Tryz.prog 125 _ _ _ from HC2.out).mono ?_
      rintro e w3 ⟨rfl, o3⟩
      have O3 : Hid (Only (fun _ => False) w w3) := O2.out.trans o3 (fun _ _ g => g)
      clear HC2 o3 O2
      go_wp2
      go_ret2
      exact ⟨by simp, O3.out⟩
end Go.Proofs.YtbhpjakjlfkfiaaGreatDoor
namespace Go.Proofs.YtbhpjakjlfkfiaaGreatDoor
open Go.RowKit Go.Lib
set_option linter.unusedSimpArgs false
set_option linter.unusedVariables false
theorem PsAt.only {w w' : World} {S bs : Nat → Prop} {d : Nat} {i : Bool} {l : List Vt} {ao : Option Addr} (h : PsAt w S d i l ao) (o : Only bs w w') (hb : ∀ b, S b → ¬ bs b) : PsAt w' S d i l ao := fun j x hx => by
  obtain ⟨g, q, u, h1, h2, h3, h4⟩ := h j x hx
  exact ⟨g, q, u, h1, h2, o.cell h3 (hb g h2), h4.only o hb⟩
theorem ps_nil {w : World} {S : Nat → Prop} {d : Nat} {i : Bool} {l : List Vt} {ao : Option Addr} (h : PsAt w S d i l ao) (e : ao = none) : l = [] := by
  cases l with
  | nil => rfl
  | cons x r =>
    obtain ⟨g, q, u, h1, _⟩ := h 0 x rfl
    rw [e] at h1
    cases h1
set_option maxRecDepth 100000 in
theorem cp_other (T : TypeId) (x : Value) (hL : T ≠ 81) (hQ : T ≠ 85) (w : World) : Calls Tryz.prog 68 #[.iface T x] w fun e w' => e = .returned (.iface T x) ∧ Only (fun _ => False) w w' := by
  have mList := va_miss T 81 51 _ Tryz.underlying81 (by intro m h; cases h) hL _ zL
  have mQuot := va_miss T 85 51 _ Tryz.underlying85 (by intro m h; cases h) hQ _ zQ
  have O : Hid (Only (fun _ => False) w w) := Only.refl _ _
  clear hL hQ
  go_enter Tryz.func68, Tryz.ntmps68
  go_wp2
  go_ret
  exact ⟨rfl, by repeat' first | exact O.out | apply Only.alloc⟩
set_option maxRecDepth 100000 in
theorem cp_nil (w : World) : Calls Tryz.prog 68 #[.nilIface] w fun e w' => e = .returned .nilIface ∧ Only (fun _ => False) w w' := by
  have mList := uas_nil 81 51 _ Tryz.underlying81 (by intro m h; cases h) _ zL
  have mQuot := uas_nil 85 51 _ Tryz.underlying85 (by intro m h; cases h) _ zQ
  have O : Hid (Only (fun _ => False) w w) := Only.refl _ _
  go_enter Tryz.func68, Tryz.ntmps68
  go_wp2
  go_ret
  exact ⟨rfl, by repeat' first | exact O.out | apply Only.alloc⟩
set_option maxRecDepth 100000 in
theorem cp_v (d : Nat) (H : CeC d false 68 94) (l : List Vt) (ao : Option Addr) (cap : Nat) (w : World) (S : Nat → Prop) (hl : PsAt w S d false l ao) (hS : ∀ b, S b → b < w.heap.size) (hsm : ∀ x ∈ l, ∃ e, SmT e x) (hlen : l.length ≤ 2513169434900) :
    Calls Tryz.prog 68 #[.iface 81 (.agg #[.slice ao l.length cap])] w fun e w' => ∃ ao' cap', e = .returned (.iface 81 (.agg #[.slice ao' l.length cap'])) ∧ Hid (l.length ≤ cap' ∧ (∃ S', PsAt w' S' d false l ao' ∧ ∀ b, S' b → w.heap.size ≤ b ∧ b < w'.heap.size) ∧ Only (fun _ => False) w w') := by
  have HC : Hid (∀ w1, Only (fun _ => False) w w1 → Calls Tryz.prog 94 #[.slice ao l.length cap, .func (.func 68) #[] #[]] w1 fun e w' => ∃ ao' cap', e = .returned (.slice ao' l.length cap') ∧ Hid (l.length ≤ cap' ∧ (∃ S', PsAt w' S' d false l ao' ∧ ∀ b, S' b → w.heap.size ≤ b ∧ b < w'.heap.size) ∧ Only (fun _ => False) w w')) := fun w1 o1 => by
    refine (H l ao cap w1 S (hl.only o1 (fun _ _ g => g)) (fun b hb => Nat.lt_of_lt_of_le (hS b hb) o1.size) hsm hlen (ps_nil hl)).mono fun e w' g => ?_
    obtain ⟨ao', cap', he, g⟩ := g
    obtain ⟨g1, ⟨S', g2, g3⟩, g4⟩ := g.out
    exact ⟨ao', cap', he, g1, ⟨S', g2, fun b hb => ⟨Nat.le_trans o1.size (g3 b hb).1, (g3 b hb).2⟩⟩, o1.trans g4 (fun _ _ g => g)⟩
  have hList := va_hit 81 51 _ Tryz.underlying81 (by intro m h; cases h)
  have O : Hid (Only (fun _ => False) w w) := Only.refl _ _
  obtain ⟨N, hN⟩ : ∃ N, N = l.length := ⟨_, rfl⟩
  rw [← hN] at HC ⊢
  clear hl hS hsm hlen hN H
  go_enter Tryz.func68, Tryz.ntmps68
  go_wp2_with fail
  refine (show Calls Tryz.prog 94 _ _ _ from HC.out _ (by repeat' first | exact O.out | apply Only.alloc)).mono ?_
  rintro e w1 ⟨ao', cap', rfl, G⟩
  clear HC O
  go_wp2
  go_ret
  exact ⟨ao', cap', rfl, G⟩
set_option maxRecDepth 100000 in
theorem cp_i (d : Nat) (H : CeC d true 96 95) (l : List Vt) (ao : Option Addr) (cap : Nat) (w : World) (S : Nat → Prop) (hl : PsAt w S d true l ao) (hS : ∀ b, S b → b < w.heap.size) (hsm : ∀ x ∈ l, ∃ e, SmT e x) (hlen : l.length ≤ 2513169434900) :
    Calls Tryz.prog 68 #[.iface 85 (.agg #[.slice ao l.length cap])] w fun e w' => ∃ ao' cap', e = .returned (.iface 85 (.agg #[.slice ao' l.length cap'])) ∧ Hid (l.length ≤ cap' ∧ (∃ S', PsAt w' S' d true l ao' ∧ ∀ b, S' b → w.heap.size ≤ b ∧ b < w'.heap.size) ∧ Only (fun _ => False) w w') := by
  have HC : Hid (∀ w1, Only (fun _ => False) w w1 → Calls Tryz.prog 95 #[.slice ao l.length cap, .func (.func 96) #[] #[]] w1 fun e w' => ∃ ao' cap', e = .returned (.slice ao' l.length cap') ∧ Hid (l.length ≤ cap' ∧ (∃ S', PsAt w' S' d true l ao' ∧ ∀ b, S' b → w.heap.size ≤ b ∧ b < w'.heap.size) ∧ Only (fun _ => False) w w')) := fun w1 o1 => by
    refine (H l ao cap w1 S (hl.only o1 (fun _ _ g => g)) (fun b hb => Nat.lt_of_lt_of_le (hS b hb) o1.size) hsm hlen (ps_nil hl)).mono fun e w' g => ?_
    obtain ⟨ao', cap', he, g⟩ := g
    obtain ⟨g1, ⟨S', g2, g3⟩, g4⟩ := g.out
    exact ⟨ao', cap', he, g1, ⟨S', g2, fun b hb => ⟨Nat.le_trans o1.size (g3 b hb).1, (g3 b hb).2⟩⟩, o1.trans g4 (fun _ _ g => g)⟩
  have mList := va_miss 85 81 51 _ Tryz.underlying81 (by intro m h; cases h) (by decide) _ zL
  have hQuot := va_hit 85 51 _ Tryz.underlying85 (by intro m h; cases h)
  have O : Hid (Only (fun _ => False) w w) := Only.refl _ _
  obtain ⟨N, hN⟩ : ∃ N, N = l.length := ⟨_, rfl⟩
  rw [← hN] at HC ⊢
  clear hl hS hsm hlen hN H
  go_enter Tryz.func68, Tryz.ntmps68
  go_wp2_with fail
  refine (show Calls Tryz.prog 95 _ _ _ from HC.out _ (by repeat' first | exact O.out | apply Only.alloc)).mono ?_
  rintro e w1 ⟨ao', cap', rfl, G⟩
  clear HC O
  go_wp2
  go_ret
  exact ⟨ao', cap', rfl, G⟩
theorem cp_of (d : Nat) (H1 : CpC d false 68) (H2 : CpC d true 96) : CpC (d + 1) false 68 := by
  intro t v w S h hsm hS
  have leaf : ∀ w', TiAt w' (fun _ => False) (d + 1) false t v → Only (fun _ => False) w w' → ∃ v', (Ending.returned v) = .returned v' ∧ Hid (NiAt w' w.heap.size (d + 1) false t v' ∧ Only (fun _ => False) w w') := fun w' ht o => ⟨v, rfl, ⟨_, ht, fun b hb => hb.elim⟩, o⟩
  rcases h with ⟨h1, h2, rfl⟩ | ⟨h1, h2, rfl⟩ | ⟨h1, h2, rfl⟩ | ⟨h1, h2, rfl⟩ | ⟨h1, h2, rfl⟩ | ⟨h1, ao, cap, rfl, hc, hl⟩
  · exact (cp_other _ _ (by decide) (by decide) w).mono fun e w' g => by obtain ⟨rfl, o⟩ := g; exact leaf w' (.inl ⟨h1, h2, rfl⟩) o
  · exact (cp_other _ _ (by decide) (by decide) w).mono fun e w' g => by obtain ⟨rfl, o⟩ := g; exact leaf w' (.inr (.inl ⟨h1, h2, rfl⟩)) o
  · exact (cp_other _ _ (by decide) (by decide) w).mono fun e w' g => by obtain ⟨rfl, o⟩ := g; exact leaf w' (.inr (.inr (.inl ⟨h1, h2, rfl⟩))) o
  · exact (cp_other _ _ (by decide) (by decide) w).mono fun e w' g => by obtain ⟨rfl, o⟩ := g; exact leaf w' (.inr (.inr (.inr (.inl ⟨h1, h2, rfl⟩)))) o
  · exact (cp_nil w).mono fun e w' g => by obtain ⟨rfl, o⟩ := g; exact leaf w' (.inr (.inr (.inr (.inr (.inl ⟨h1, h2, rfl⟩))))) o
  · obtain ⟨e, hs⟩ := hsm
    have hlen := hs.len
    have hparts := hs.parts
    by_cases h4 : t.k = 4
    · rw [if_pos h4]
      rw [show decide (t.k = 5) = false by simp [h4]] at hl
      refine (cp_v d (ce_v d H1) t.l ao cap w S hl hS hparts hlen).mono fun e w' g => ?_
      obtain ⟨ao', cap', rfl, g⟩ := g
      obtain ⟨g1, ⟨S', g2, g3⟩, g4⟩ := g.out
      refine ⟨_, rfl, ⟨S', .inr (.inr (.inr (.inr (.inr ⟨h1, ao', cap', by rw [if_pos h4], g1, ?_⟩)))), g3⟩, g4⟩
      rw [show decide (t.k = 5) = false by simp [h4]]
      exact g2
    · have h5 : t.k = 5 := by rcases h1 with g | g; exact absurd g h4; exact g
      rw [if_neg h4]
      rw [show decide (t.k = 5) = true by simp [h5]] at hl
      refine (cp_i d (ce_i d H2) t.l ao cap w S hl hS hparts hlen).mono fun e w' g => ?_
      obtain ⟨ao', cap', rfl, g⟩ := g
      obtain ⟨g1, ⟨S', g2, g3⟩, g4⟩ := g.out
      refine ⟨_, rfl, ⟨S', .inr (.inr (.inr (.inr (.inr ⟨h1, ao', cap', by rw [if_neg h4], g1, ?_⟩)))), g3⟩, g4⟩
      rw [show decide (t.k = 5) = true by simp [h5]]
      exact g2
set_option maxRecDepth 100000 in
theorem ci_call (s : ByteArray) (w : World) : Calls Tryz.prog 96 #[.iface 147 (.agg #[.string s])] w fun e w' => e = .returned (.iface 147 (.agg #[.string s])) ∧ Only (fun _ => False) w w' := by
  have mP := va_miss 147 125 112 _ Tryz.underlying125 (by intro m h; cases h) (by decide) _ vzero_Push
  have O : Hid (Only (fun _ => False) w w) := Only.refl _ _
  go_enter Tryz.func96, Tryz.ntmps96
  go_wp2
  go_ret
  exact ⟨rfl, by repeat' first | exact O.out | apply Only.alloc⟩
set_option maxRecDepth 100000 in
theorem ci_nil (w : World) : Calls Tryz.prog 96 #[.nilIface] w fun e w' => e = .returned .nilIface ∧ Only (fun _ => False) w w' := by
  have mP := uas_nil 125 112 _ Tryz.underlying125 (by intro m h; cases h) _ vzero_Push
  have O : Hid (Only (fun _ => False) w w) := Only.refl _ _
  go_enter Tryz.func96, Tryz.ntmps96
  go_wp2
  go_ret
  exact ⟨rfl, by repeat' first | exact O.out | apply Only.alloc⟩
set_option maxRecDepth 100000 in
theorem ci_push (u : Value) (Q : Value → World → Prop) (w : World) (hu : u = .nilIface ∨ ∃ T y, u = .iface T y) (HC0 : ∀ w1, Only (fun _ => False) w w1 → Calls Tryz.prog 68 #[u] w1 fun e w' => ∃ v', e = .returned v' ∧ (v' = .nilIface ∨ ∃ T y, v' = .iface T y) ∧ Hid (Q v' w')) : Calls Tryz.prog 96 #[.iface 125 (.agg #[u])] w fun e w' => ∃ v', e = .returned (.iface 125 (.agg #[v'])) ∧ Hid (Q v' w') := by
  have mP := va_hit 125 112 _ Tryz.underlying125 (by intro m h; cases h)
  have HC : Hid _ := HC0
  have O : Hid (Only (fun _ => False) w w) := Only.refl _ _
  clear HC0
  rcases hu with rfl | ⟨T, y, rfl⟩
  all_goals
    go_enter Tryz.func96, Tryz.ntmps96
    go_wp2_with fail
    refine (show Calls Tryz.prog 68 _ _ _ from HC.out _ (by repeat' first | exact O.out | apply Only.alloc)).mono ?_
    rintro e w1 ⟨v', rfl, hv, G⟩
    clear HC O
    rcases hv with rfl | ⟨T', y', rfl⟩
    all_goals
      go_wp2
      go_ret
      exact ⟨_, rfl, G⟩
theorem ci_of (d : Nat) (H : CpC d false 68) : CpC (d + 1) true 96 := by
  intro t v w S h hsm hS
  rcases h with ⟨h1, h2, rfl⟩ | ⟨h1, h2, rfl⟩ | ⟨h1, h2, u, rfl, hu⟩
  · exact (ci_call _ w).mono fun e w' g => by obtain ⟨rfl, o⟩ := g; exact ⟨_, rfl, ⟨fun _ => False, .inl ⟨h1, h2, rfl⟩, fun b hb => hb.elim⟩, o⟩
  · exact (ci_nil w).mono fun e w' g => by obtain ⟨rfl, o⟩ := g; exact ⟨_, rfl, ⟨fun _ => False, .inr (.inl ⟨h1, h2, rfl⟩), fun b hb => hb.elim⟩, o⟩
  · refine (ci_push u (fun v' w' => NiAt w' w.heap.size d false t v' ∧ Only (fun _ => False) w w') w hu.shape2 (fun w1 o1 => ?_)).mono fun e w' g => ?_
    · refine (H t u w1 S (hu.only o1 (fun _ _ g => g)) hsm (fun b hb => Nat.lt_of_lt_of_le (hS b hb) o1.size)).mono fun e w' g => ?_
      obtain ⟨v', he, g⟩ := g
      exact ⟨v', he, (by obtain ⟨_, t, _⟩ := g.out.1; exact t.shape2), g.out.1.lower o1.size, o1.trans g.out.2 (fun _ _ g => g)⟩
    · obtain ⟨v', rfl, g⟩ := g
      obtain ⟨⟨S', g1, g2⟩, g3⟩ := g.out
      exact ⟨_, rfl, ⟨S', .inr (.inr ⟨h1, h2, v', rfl, g1⟩), g2⟩, g3⟩
theorem cp_all : ∀ (D d : Nat), d < D → CpC d false 68 ∧ CpC d true 96
  | 0, d, h => by omega
  | D + 1, d, h => by
    cases d with
    | zero => exact ⟨fun t v w0 S h => h.elim, fun t v w0 S h => h.elim⟩
    | succ d =>
      have ih := cp_all D d (by omega)
      exact ⟨cp_of d ih.1 ih.2, ci_of d ih.1⟩
/-- what Copy answers -/
def CoP (Z : Bool) (d : Nat) (t : Vt) (w : World) (e : Ending) (w' : World) : Prop := ∃ v', e = .returned (.tuple #[v', .int .i64 (if Z then 0 else 1)]) ∧ (Z = true → NiAt w' w.heap.size d false t v') ∧ (Z = false → v' = .nilIface) ∧ Only (fun _ => False) w w'
set_option maxRecDepth 100000 in
theorem vcopy_any {d : Nat} {t : Vt} {v : Value} {w : World} {S : Nat → Prop} (h : TiAt w S d false t v) (hS : ∀ b, S b → b < w.heap.size) (hsm : ∃ e, SmT e t) (hT : Tb w) : Calls Tryz.prog 45 #[v] w fun e w' => CoP (sdB d t) d t w e w' := by
  have HC : Hid _ := vcheck_any h hS hsm hT
  have HK : Hid (∀ w1, Only (fun _ => False) w w1 → Calls Tryz.prog 68 #[v] w1 fun e w' => ∃ v', e = .returned v' ∧ Hid (NiAt w' w.heap.size d false t v' ∧ Only (fun _ => False) w w')) := fun w1 o1 => by
    refine ((cp_all (d + 1) d (by omega)).1 t v w1 S (h.only o1 (fun _ _ g => g)) hsm (fun b hb => Nat.lt_of_lt_of_le (hS b hb) o1.size)).mono fun e w' g => ?_
    obtain ⟨v', he, g⟩ := g
    exact ⟨v', he, g.out.1.lower o1.size, o1.trans g.out.2 (fun _ _ g => g)⟩
  cases hZ : sdB d t with
  | false =>
    rw [hZ] at HC
    have HP : Hid (∀ w', Only (fun _ => False) w w' → CoP false d t w (.returned (.tuple #[.nilIface, .int .i64 1])) w') := fun w' o => ⟨_, rfl, fun g => (by cases g), fun _ => rfl, o⟩
    clear h hS hsm hT hZ HK
    go_enter Tryz.func45, Tryz.ntmps45
    go_wp2_with fail
    refine (show Calls Tryz.prog 67 _ _ _ from HC.out).mono ?_
    rintro e w1 ⟨rfl, o1⟩
    have O1 : Hid (Only (fun _ => False) w w1) := o1
    clear HC o1
    go_wp2
    go_ret2
    exact HP.out _ O1.out
  | true =>
    rw [hZ] at HC
    have HP : Hid (∀ v' w', NiAt w' w.heap.size d false t v' → Only (fun _ => False) w w' → CoP true d t w (.returned (.tuple #[v', .int .i64 0])) w') := fun v' w' hn o => ⟨_, rfl, fun _ => hn, fun g => (by cases g), o⟩
    clear h hS hsm hT hZ
    go_enter Tryz.func45, Tryz.ntmps45
    go_wp2_with fail
    refine (show Calls Tryz.prog 67 _ _ _ from HC.out).mono ?_
    rintro e w1 ⟨rfl, o1⟩
    have O1 : Hid (Only (fun _ => False) w w1) := o1
    clear HC o1
    go_wp2_with fail
    refine (show Calls Tryz.prog 68 _ _ _ from HK.out _ O1.out).mono ?_
    rintro e w2 ⟨v', rfl, G2⟩
    clear HK O1
    go_wp2
    go_ret2
    exact HP.out _ _ G2.out.1 G2.out.2
end Go.Proofs.YtbhpjakjlfkfiaaGreatDoor
namespace Go.Proofs.YtbhpjakjlfkfiaaGreatDoor
open Go.RowKit Go.Lib
set_option linter.unusedSimpArgs false
set_option linter.unusedVariables false
/-- the values l in the block G, which is theirs alone, made since block B -/
def SkAt (w : World) (B d : Nat) (l : List Vt) (G : Nat) : Prop := ∃ (us : List Value) (S : Nat → Prop), us.length = l.length ∧ w.heap[G]? = some (.cells us.toArray 51) ∧ B ≤ G ∧ (∀ b, S b → B ≤ b ∧ b < w.heap.size ∧ b ≠ G) ∧ ∀ (j : Nat) (x : Vt), l[j]? = some x → ∃ u, us[j]? = some u ∧ TiAt w S d false x u
theorem SkAt.only {w w' : World} {B d G : Nat} {l : List Vt} {bs : Nat → Prop} (h : SkAt w B d l G) (o : Only bs w w') (hb : ∀ b, B ≤ b → ¬ bs b) : SkAt w' B d l G := by
  obtain ⟨us, S, h1, h2, h3, h4, h5⟩ := h
  refine ⟨us, S, h1, (o.block G (Array.getElem?_eq_some_iff.1 h2).1 (hb G h3)).trans h2, h3, fun b g => ?_, fun j x hx => ?_⟩
  · obtain ⟨a1, a2, a3⟩ := h4 b g
    exact ⟨a1, Nat.lt_of_lt_of_le a2 o.size, a3⟩
  · obtain ⟨u, p1, p2⟩ := h5 j x hx
    exact ⟨u, p1, p2.only o (fun b g => hb b (h4 b g).1)⟩
theorem SkAt.lower {w : World} {B C d G : Nat} {l : List Vt} (h : SkAt w B d l G) (hC : C ≤ B) : SkAt w C d l G := by
  obtain ⟨us, S, h1, h2, h3, h4, h5⟩ := h
  exact ⟨us, S, h1, h2, Nat.le_trans hC h3, fun b g => ⟨Nat.le_trans hC (h4 b g).1, (h4 b g).2⟩, h5⟩
theorem SkAt.lt {w : World} {B d G : Nat} {l : List Vt} (h : SkAt w B d l G) : G < w.heap.size := by
  obtain ⟨us, S, h1, h2, _⟩ := h
  exact (Array.getElem?_eq_some_iff.1 h2).1
/-- the values from number k on -/
theorem SkAt.ps {w : World} {B d G : Nat} {l : List Vt} (h : SkAt w B d l G) (k : Nat) : ∃ S, PsAt w S d false (l.drop k) (some ⟨G, k, none⟩) ∧ ∀ b, S b → B ≤ b ∧ b < w.heap.size := by
  have hlt := h.lt
  obtain ⟨us, S, h1, h2, h3, h4, h5⟩ := h
  refine ⟨fun b => S b ∨ b = G, fun j x hx => ?_, fun b hb => ?_⟩
  · rw [List.getElem?_drop] at hx
    obtain ⟨u, p1, p2⟩ := h5 _ x hx
    refine ⟨G, k, u, rfl, .inr rfl, ?_, p2.step (fun _ g => .inl g) (fun _ _ _ g => g) (Nat.le_refl _)⟩
    rw [cell_of_row _ _ _ _ _ _ h2]
    simpa using p1
  · rcases hb with g | rfl
    · exact ⟨(h4 b g).1, (h4 b g).2.1⟩
    · exact ⟨h3, hlt⟩
/-- the first j are copied -/
def CkI (w wr : World) (d : Nat) (l : List Vt) (G j : Nat) : Prop :=
  ∃ (vs : List Value) (S' : Nat → Prop), vs.length = l.length ∧ wr.heap[G]? = some (.cells vs.toArray 51) ∧ Only (fun _ => False) w wr ∧ w.heap.size ≤ G ∧
    (∀ b, S' b → w.heap.size ≤ b ∧ b < wr.heap.size ∧ b ≠ G) ∧ ∀ (k : Nat) (x : Vt), l[k]? = some x → k < j → ∃ u, vs[k]? = some u ∧ TiAt wr S' d false x u
theorem CkI.step {w wr w2 : World} {d : Nat} {l : List Vt} {G j : Nat} {x : Vt} {v' : Value} (h : CkI w wr d l G j) (hx : l[j]? = some x) (hn : NiAt w2 wr.heap.size d false x v') (o : Only (fun _ => False) wr w2) : CkI w (w2.setCell ⟨G, j, none⟩ v') d l G (j + 1) := by
  obtain ⟨vs, S', h1, h2, h3, h4, h5, h7⟩ := h
  obtain ⟨S2, t2, s2⟩ := hn
  have hGlt : G < wr.heap.size := (Array.getElem?_eq_some_iff.1 h2).1
  have hw2 : w2.heap[G]? = some (.cells vs.toArray 51) := (o.block G hGlt (fun g => g)).trans h2
  have hjl : j < l.length := (List.getElem?_eq_some_iff.1 hx).1
  have oo : Only (fun b => b = G) w2 (w2.setCell ⟨G, j, none⟩ v') := (Only.refl _ _).setCell ⟨G, j, none⟩ v' (fun _ => rfl)
  have hsz : (w2.setCell ⟨G, j, none⟩ v').heap.size = w2.heap.size := by simp
  refine ⟨vs.set j v', fun b => S' b ∨ S2 b, by simpa using h1, ?_, (h3.trans o (fun _ _ g => g)).trans oo (fun b hb e => by omega), h4, fun b hb => ?_, fun k y hy hk => ?_⟩
  · rw [heap_setCell_same w2 G j vs.toArray 51 v' hw2]
    simp
  · rw [hsz]
    rcases hb with g | g
    · obtain ⟨a1, a2, a3⟩ := h5 b g
      exact ⟨a1, Nat.lt_of_lt_of_le a2 o.size, a3⟩
    · obtain ⟨a1, a2⟩ := s2 b g
      exact ⟨Nat.le_trans h3.size a1, a2, by omega⟩
  · by_cases hk2 : k = j
    · subst hk2
      rw [hx] at hy
      injection hy with hy
      subst hy
      refine ⟨v', by rw [List.getElem?_set_self (by omega)], ?_⟩
      exact (t2.only oo (fun b g e => by have := (s2 b g).1; omega)).step (fun _ g => .inr g) (fun _ _ _ g => g) (Nat.le_refl _)
    · obtain ⟨u, p1, p2⟩ := h7 k y hy (by omega)
      refine ⟨u, by rw [List.getElem?_set_ne (fun e => hk2 e.symm)]; exact p1, ?_⟩
      exact ((p2.only o (fun _ _ g => g)).only oo (fun b g => (h5 b g).2.2)).step (fun _ g => .inl g) (fun _ _ _ g => g) (Nat.le_refl _)
/-- what copies answers -/
def CsP (Z : Bool) (d : Nat) (l : List Vt) (w : World) (e : Ending) (w' : World) : Prop := ∃ v, e = .returned (.tuple #[v, .bool Z]) ∧ (Z = true → ∃ G, v = .slice (some ⟨G, 0, none⟩) l.length l.length ∧ SkAt w' w.heap.size d l G) ∧ (Z = false → v = .slice none 0 0) ∧ Only (fun _ => False) w w'
theorem mk_full {sT eT : TypeId} (hT : Tryz.prog.underlying sT = some (.slice eT)) (hI : (Tryz.prog.info? eT).map (fun i => (i.zero, i.size, i.bytes)) = some (some .nilIface, 1, 16)) (n : Nat) (hn : n ≤ 2513169434900) : ∃ M : Array Value, M.size = n ∧ ∀ w : World, (Instr.makeSlice sT (.int .i64 n) (.int .i64 n)).run Tryz.prog w = .ok (.slice (some ⟨w.heap.size, 0, none⟩) n n) (w.alloc (.cells M eT)) := by
  obtain ⟨i0, hi0, hz0, hz1, hz2⟩ := vinfo_parts hI
  refine ⟨madeCells (Value.nilIface).cells n, size_madeCells _ _, fun w => ?_⟩
  have := run_make (P := Tryz.prog) w sT eT i0 _ hT hi0 hz0 .i64 .i64 (n : Int) (n : Int) (by omega) (by omega) (by rw [hz2]; omega) (by omega)
  rw [hz1, show ((n : Int)).toNat = n by omega, Nat.mul_one] at this
  exact this
set_option maxRecDepth 100000 in
set_option maxHeartbeats 4000000 in
theorem copies_any {d : Nat} {l : List Vt} {ao : Option Addr} {cap : Nat} {w : World} {S : Nat → Prop} (hl : PsAt w S d false l ao) (hS : ∀ b, S b → b < w.heap.size) (hsm : ∀ x ∈ l, ∃ e, SmT e x) (hlen : l.length ≤ 2513169434900) (hT : Tb w) :
    Calls Tryz.prog 28 #[.slice ao l.length cap] w fun e w' => CsP (l.all (sdB d)) d l w e w' := by
  obtain ⟨N, hN⟩ : ∃ N, N = l.length := ⟨_, rfl⟩
  obtain ⟨Z, hZ⟩ : ∃ Z, Z = l.all (sdB d) := ⟨_, rfl⟩
  obtain ⟨M, hM, hmk0⟩ := mk_full Tryz.underlying25 vinfoV N (by omega)
  have hmk := hmk0 w
  obtain ⟨W, hW⟩ : ∃ W, W = w.alloc (.cells M 51) := ⟨_, rfl⟩
  obtain ⟨G, hG⟩ : ∃ G, G = w.heap.size := ⟨_, rfl⟩
  have HI0 : Hid (CkI w W d l G 0 ∧ ∀ (k : Nat) (x : Vt), l[k]? = some x → k < 0 → sdB d x = true) := by
    refine ⟨⟨M.toList, fun _ => False, by rw [Array.length_toList, hM, hN], ?_, by rw [hW]; exact (Only.refl _ w).alloc _, by omega, fun b hb => hb.elim, fun k x _ g => by omega⟩, fun k x _ g => by omega⟩
    rw [hW, hG]
    simpa using heap_alloc_new w (.cells M 51)
  rw [← hW, ← hG] at hmk
  have HN : Hid (N = l.length ∧ N ≤ 2513169434900) := ⟨hN, by omega⟩
  have HT : Hid (PsAt w S d false l ao ∧ (∀ b, S b → b < w.heap.size) ∧ (∀ x ∈ l, ∃ e, SmT e x) ∧ Tb w) := ⟨hl, hS, hsm, hT⟩
  have HPF : Hid (∀ w', (∃ x ∈ l, sdB d x = false) → Only (fun _ => False) w w' → CsP Z d l w (.returned (.tuple #[.slice none 0 0, .bool false])) w') := fun w' ⟨x, hx, h1⟩ h3 => by
    have e : Z = false := by rw [hZ, List.all_eq_false]; exact ⟨x, hx, by simp [h1]⟩
    rw [e]
    exact ⟨_, rfl, (fun h => by cases h), fun _ => rfl, h3⟩
  have HPT : Hid (∀ w', (∀ (k : Nat) (x : Vt), l[k]? = some x → sdB d x = true) → CkI w w' d l G N → CsP Z d l w (.returned (.tuple #[.slice (some ⟨G, 0, none⟩) N N, .bool true])) w') := fun w' h1 h3 => by
    have e : Z = true := by
      rw [hZ, List.all_eq_true]
      intro x hx
      obtain ⟨k, hk⟩ := List.getElem?_of_mem hx
      exact h1 k x hk
    rw [e]
    obtain ⟨vs, S', q1, q2, q3, q4, q5, q7⟩ := h3
    exact ⟨_, rfl, fun _ => ⟨G, by rw [hN], vs, S', q1, q2, q4, q5, fun j x hx => q7 j x hx (by rw [hN]; exact (List.getElem?_eq_some_iff.1 hx).1)⟩, (fun h => by cases h), q3⟩
  rw [← hN, ← hZ]
  clear hl hS hsm hlen hT hN hZ hM hmk0 hW hG
  go_enter Tryz.func28, Tryz.ntmps28
  go_wp2
  go_loopw [14] (fun r wr => ∃ j : Nat, r = .int .i64 (j : Int) ∧ j ≤ N ∧ Hid (CkI w wr d l G j ∧ ∀ (k : Nat) (x : Vt), l[k]? = some x → k < j → sdB d x = true)) (fun r _ => N - vuOf r)
  case atStart => exact ⟨0, rfl, Nat.zero_le _, HI0.out⟩
  case round =>
    obtain ⟨j, rfl, hj, HI⟩ := hrel
    obtain ⟨w2, hw2⟩ : ∃ w2, w2 = wr := ⟨_, rfl⟩
    rw [← hw2] at HI ⊢
    clear hw2 HI0 hmk
    have hNl := HN.out.1
    by_cases hjN : j < N
    · obtain ⟨x, hx⟩ : ∃ x, l[j]? = some x := ⟨l[j]'(by omega), List.getElem?_eq_getElem (by omega)⟩
      obtain ⟨g, q, u, ha, hSg, hcw, ht⟩ := HT.out.1 j x hx
      obtain ⟨vs, S', q1, q2, q3, q4, q5, q7⟩ := HI.out.1
      have hcell : w2.cell? ⟨g, q + j, none⟩ = some u := q3.cell hcw (fun g => g)
      have HC : Hid _ := vcopy_any (ht.only q3 (fun _ _ g => g)) (fun b g => Nat.lt_of_lt_of_le (HT.out.2.1 b g) q3.size) (HT.out.2.2.1 x (List.mem_of_getElem? hx)) (HT.out.2.2.2.frame q3)
      have O2 : Hid (Only (fun _ => False) w w2) := q3
      have HX : Hid (j < N ∧ l[j]? = some x) := ⟨hjN, hx⟩
      have i1 : (j : Int) < (N : Int) := by omega
      have i0 : (0 : Int) ≤ (j : Int) := by omega
      have i4 : j ≤ 2513169434900 := by have := HN.out.2; omega
      subst ha
      clear q1 q2 q3 q4 q5 q7 hx hNl hjN hj hSg hcw ht
      cases hs : sdB d x with
      | false =>
        rw [hs] at HC
        have HB : Hid (∃ x ∈ l, sdB d x = false) := ⟨x, List.mem_of_getElem? HX.out.2, hs⟩
        clear hs
        go_wp2_with fail
        refine (show Calls Tryz.prog 45 _ _ _ from HC.out).mono ?_
        rintro e w3 ⟨v', rfl, _, hv, o3⟩
        obtain rfl := hv rfl
        have O3 : Hid (Only (fun _ => False) w w3) := O2.out.trans o3 (fun _ _ g => g)
        clear HC o3 hv
        go_wp2
        go_ret2
        exact HPF.out _ HB.out O3.out
      | true =>
        rw [hs] at HC
        have HB : Hid (sdB d x = true) := hs
        clear hs
        go_wp2_with fail
        refine (show Calls Tryz.prog 45 _ _ _ from HC.out).mono ?_
        rintro e w3 ⟨v', rfl, hv, _, o3⟩
        have hn := hv rfl
        have HI2 : Hid (CkI w (w3.setCell ⟨G, j, none⟩ v') d l G (j + 1) ∧ ∀ (k : Nat) (y : Vt), l[k]? = some y → k < j + 1 → sdB d y = true) := by
          refine ⟨HI.out.1.step HX.out.2 hn o3, fun k y hy hk => ?_⟩
          by_cases e : k = j
          · subst e
            have := HX.out.2
            rw [hy] at this
            injection this with this
            subst this
            exact HB.out
          · exact HI.out.2 k y hy (by omega)
        obtain ⟨z, hc3⟩ : ∃ z, w3.cell? ⟨G, j, none⟩ = some z := by
          obtain ⟨vs, S', q1, q2, _⟩ := HI.out.1
          refine ⟨vs[j]'(by rw [q1, ← HN.out.1]; exact HX.out.1), ?_⟩
          rw [cell_of_row _ _ _ _ _ _ ((o3.block G (Array.getElem?_eq_some_iff.1 q2).1 (fun g => g)).trans q2)]
          simp
        have hf3 : w3.frozen? ⟨G, j, none⟩ = false := by
          obtain ⟨vs, S', q1, q2, _⟩ := HI.out.1
          exact frozen_of_row _ _ _ _ _ ((o3.block G (Array.getElem?_eq_some_iff.1 q2).1 (fun g => g)).trans q2)
        have HJ : Hid (j < N) := HX.out.1
        have hform : v' = .nilIface ∨ ∃ T y, v' = .iface T y := by obtain ⟨_, t, _⟩ := hn; exact t.shape2
        clear HC HX HI hn hv o3 hcell O2 HB
        rcases hform with rfl | ⟨T, y, rfl⟩
        all_goals
          go_wp2
          go_roundw
          case rel => exact ⟨j + 1, by go_num, by have := HJ.out; omega, HI2⟩
          case measure => simp only [vuOf]; have := HJ.out; omega
    · obtain rfl : j = N := by omega
      have i1 : ¬ (j : Int) < (j : Int) := by omega
      have HE : Hid (∀ (k : Nat) (x : Vt), l[k]? = some x → sdB d x = true) := fun k x hx => HI.out.2 k x hx (by rw [HN.out.1]; exact (List.getElem?_eq_some_iff.1 hx).1)
      clear hNl hjN hj
      go_wp2
      go_ret2
      exact HPT.out _ HE.out HI.out.1
end Go.Proofs.YtbhpjakjlfkfiaaGreatDoor
